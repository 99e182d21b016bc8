/- The specification asks a word's kind and its text: of the words that cutting makes, the text is enough, at each text that is asked. -/
import Derived.Test.YtkdlgglikhbnkacSSd2
import Derived.Test.YtkdlgglikhbnkacRelex2
namespace Go.Proofs.Ytkdlgglikhbnkac
open Go.ChangeShapes Go.WideShapes Go.ChangeAt Go.RowKit
set_option linter.unusedVariables false
set_option maxRecDepth 100000

/-- A text that is asked for: one of the language's own words, or a sign. -/
def askB (x : ByteArray) : Bool := decide (0 < x.size) && (wordB x.toList || !letB (bAt x 0)) && !tabB' (bAt x 0)

theorem good_ask {t : Tk} (hg : Good t) (hx : askB t.s = true) : t.k = 5 ∨ t.k = 3 := by
  simp only [askB, Bool.and_eq_true, Bool.or_eq_true, decide_eq_true_eq, Bool.not_eq_true'] at hx
  obtain ⟨⟨h1, h2⟩, h3⟩ := hx
  rcases hg with ⟨_, he, _⟩ | ⟨hk, _, _, _, hl, _⟩ | ⟨_, _, ht, _⟩ | ⟨hk, _⟩
  · rw [he] at h1; exact absurd h1 (by decide)
  · rcases h2 with h2 | h2
    · rw [if_pos h2] at hk; exact Or.inr hk
    · rw [hl] at h2; exact absurd h2 (by decide)
  · rw [ht] at h3; exact absurd h3 (by decide)
  · exact Or.inl hk

/-- All words are such as cutting makes. -/
def Goods (T : List Tk) : Prop := ∀ j, j < T.length → Good (tkAt T j)

theorem isB_text {T : List Tk} (hT : Goods T) (i : Nat) {x : ByteArray} (hx : askB x = true) : isB T i x = decide (wS T i = x) := by
  unfold isB
  by_cases hw : wS T i = x
  · by_cases hi : i < T.length
    · have := good_ask (hT i hi) (by rw [← hw] at hx; exact hx)
      rw [decide_eq_true hw, Bool.and_true]
      rcases this with h | h <;> simp [h]
    · have e : wS T i = empS := by
        unfold wS
        rw [show tkAt T i = tk0 by simp [tkAt, List.getElem?_eq_none (Nat.le_of_not_lt hi)]]
        rfl
      rw [← hw, e] at hx
      exact absurd hx (by decide)
  · rw [decide_eq_false hw, Bool.and_false]

theorem goods_lex {s : ByteArray} (hk : (lexF s).2 = -1) : Goods (lexF s).1 := by
  unfold lexF at hk ⊢
  split at hk
  · intro j hj
    rw [if_pos (by assumption)] at hj
    exact absurd hj (Nat.not_lt_zero _)
  · rw [if_neg (by assumption)]
    exact (lexGo_inv s 0 [] (Nat.zero_le _) (Inv.nil 0)).1.good

theorem ask_mul : askB (ByteArray.mk #[42]) = true := by kernel_rfl
theorem ask_div : askB (ByteArray.mk #[47]) = true := by kernel_rfl
theorem ask_rem : askB (ByteArray.mk #[37]) = true := by kernel_rfl
theorem ask_add : askB (ByteArray.mk #[43]) = true := by kernel_rfl
theorem ask_sub : askB (ByteArray.mk #[45]) = true := by kernel_rfl
theorem ask_less : askB (ByteArray.mk #[60]) = true := by kernel_rfl
theorem ask_same : askB (ByteArray.mk #[61, 61]) = true := by kernel_rfl
theorem ask_open : askB (ByteArray.mk #[40]) = true := by kernel_rfl
theorem ask_shut : askB (ByteArray.mk #[41]) = true := by kernel_rfl
theorem ask_row : askB (ByteArray.mk #[91]) = true := by kernel_rfl
theorem ask_wor : askB (ByteArray.mk #[93]) = true := by kernel_rfl
theorem ask_begin : askB (ByteArray.mk #[123]) = true := by kernel_rfl
theorem ask_end : askB (ByteArray.mk #[125]) = true := by kernel_rfl
theorem ask_semi : askB (ByteArray.mk #[59]) = true := by kernel_rfl
theorem ask_comma : askB (ByteArray.mk #[44]) = true := by kernel_rfl
theorem ask_is : askB (ByteArray.mk #[61]) = true := by kernel_rfl
theorem ask_proc : askB (ByteArray.mk #[112, 114, 111, 99]) = true := by kernel_rfl
theorem ask_read : askB (ByteArray.mk #[114, 101, 97, 100]) = true := by kernel_rfl
theorem ask_write : askB (ByteArray.mk #[119, 114, 105, 116, 101]) = true := by kernel_rfl
theorem ask_if : askB (ByteArray.mk #[105, 102]) = true := by kernel_rfl
theorem ask_else : askB (ByteArray.mk #[101, 108, 115, 101]) = true := by kernel_rfl
theorem ask_for : askB (ByteArray.mk #[102, 111, 114]) = true := by kernel_rfl
theorem ask_in : askB (ByteArray.mk #[105, 110]) = true := by kernel_rfl
theorem ask_abort : askB (ByteArray.mk #[97, 98, 111, 114, 116]) = true := by kernel_rfl
theorem ask_return : askB (ByteArray.mk #[114, 101, 116, 117, 114, 110]) = true := by kernel_rfl

end Go.Proofs.Ytkdlgglikhbnkac
