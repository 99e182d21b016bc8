/- The cutting as a computation; the law's own text; is reading alive? -/
import Derived.Test.YtfliahkcfnpjcabLex2
import Derived.Test.YtfliahkcfnpjcabLexT
namespace Go.Proofs.Ytfliahkcfnpjcab
open Go.ChangeShapes Go.WideShapes Go.ChangeAt Go.RowKit
set_option linter.unusedVariables false
set_option maxRecDepth 100000
attribute [local go_sem ↓] Go.wp_at_zero Go.wp_at_succ
attribute [local go_sem] byte_eq

def runN : Nat → (Int → Bool) → ByteArray → Nat → Nat
  | 0, _, _, i => i
  | f + 1, p, s, i => if i < s.size ∧ p (bAt s i) = true then runN f p s (i + 1) else i
theorem runN_eq (p : Int → Bool) (s : ByteArray) : ∀ f i, s.size ≤ i + f → runN f p s i = runTo p s i
  | 0, i, h => by rw [runN, runTo_stop (by omega)]
  | f + 1, i, h => by
    rw [runN]
    by_cases h2 : i < s.size ∧ p (bAt s i) = true
    · rw [if_pos h2, runN_eq p s f (i + 1) (by omega), runTo_step h2.1 h2.2]
    · rw [if_neg h2, runTo_stop h2]

def lexAtN (s : ByteArray) (i : Nat) : Option (Tk × Nat) :=
  if digB (bAt s i) = true then
    if 9 < runN s.size digB s (i + 1) - i then none else some (⟨1, empS, numAt s i (runN s.size digB s (i + 1) - i), i⟩, runN s.size digB s (i + 1))
  else if letB (bAt s i) = true then
    if 20 < runN s.size inB s (i + 1) - i then none else some (⟨if wordB (s.extract i (runN s.size inB s (i + 1))).toList = true then 3 else 2, s.extract i (runN s.size inB s (i + 1)), 0, i⟩, runN s.size inB s (i + 1))
  else if tabB' (bAt s i) = true then some (⟨4, s.extract i (i + 1), bAt s i - 65, i⟩, i + 1)
  else if signB (bAt s i) = true then
    if bAt s i = 61 ∧ i + 1 < s.size ∧ bAt s (i + 1) = 61 then some (⟨5, s.extract i (i + 2), 0, i⟩, i + 2) else some (⟨5, s.extract i (i + 1), 0, i⟩, i + 1)
  else none
theorem lexAtN_eq (s : ByteArray) (i : Nat) : lexAtN s i = lexAt s i := by
  unfold lexAtN lexAt
  rw [runN_eq _ _ _ _ (by omega), runN_eq _ _ _ _ (by omega)]

def lexN : Nat → ByteArray → Nat → List Tk → List Tk × Int
  | 0, _, i, acc => (acc, -1)
  | f + 1, s, i, acc =>
    if i < s.size then
      if whiteB (bAt s i) = true then lexN f s (i + 1) acc
      else match lexAtN s i with
        | none => ([], i)
        | some (t, e) => if i < e then lexN f s e (acc ++ [t]) else ([], i)
    else (acc, -1)
theorem lexN_eq (s : ByteArray) : ∀ f i acc, s.size ≤ i + f → lexN f s i acc = lexGo s i acc
  | 0, i, acc, h => by rw [lexN, lexGo_end (by omega)]
  | f + 1, i, acc, h => by
    rw [lexN, lexGo]
    by_cases h2 : i < s.size
    · rw [if_pos h2, dif_pos h2]
      by_cases h3 : whiteB (bAt s i) = true
      · rw [if_pos h3, if_pos h3, lexN_eq s f (i + 1) acc (by omega)]
      · rw [if_neg h3, if_neg h3, lexAtN_eq]
        cases lexAt s i with
        | none => rfl
        | some x =>
          obtain ⟨t, e⟩ := x
          show (if i < e then lexN f s e (acc ++ [t]) else ([], (i : Int))) = if i < e then lexGo s e (acc ++ [t]) else ([], (i : Int))
          by_cases h4 : i < e
          · rw [if_pos h4, if_pos h4, lexN_eq s f e (acc ++ [t]) (by omega)]
          · rw [if_neg h4, if_neg h4]
    · rw [if_neg h2, dif_neg h2]

def wtxt : ByteArray := ⟨#[120, 32, 61, 32, 114, 101, 97, 100, 32, 65, 91, 49, 93, 59]⟩
theorem wtxt_lex : (lexF wtxt).2 = -1 ∧ (lexF wtxt).1.length = 8 ∧ (tkAt (lexF wtxt).1 3).k = 4 ∧ (tkAt (lexF wtxt).1 5).n = 1 := by
  have e : lexF wtxt = lexN 14 wtxt 0 [] := by
    rw [lexF, if_neg (by decide), lexN_eq _ _ _ _ (by decide)]
  rw [e]
  refine ⟨by kernel_rfl, by kernel_rfl, by kernel_rfl, by kernel_rfl⟩

theorem x1_ok : nameOk ⟨#[120, 49]⟩ := by
  refine ⟨by decide, by decide, by decide, by rw [ByteArray.toList_eq]; decide, fun i hi => ?_⟩
  have : i = 0 ∨ i = 1 := by
    have : (ByteArray.mk #[120, 49]).size = 2 := rfl
    omega
  rcases this with rfl | rfl <;> decide

set_option maxHeartbeats 1000000 in
theorem words_any (w : World) :
    Calls Try.prog 8 #[] w fun e w' => e = .returned (.bool true) ∧ Below w.heap.size w w' := by
  go_enter Try.func8, Try.ntmps8
  go_wp2_with fail
  refine (implLex_any wtxt _).mono ?_
  rintro e w1 ⟨v, rfl, hO, hb⟩
  obtain ⟨h1, h2, h3, h4⟩ := wtxt_lex
  obtain ⟨g, cap, rfl, _, _, hT⟩ := toks_of_owns hO (by omega)
  have c3 := (hT 3 (by omega)).1
  have c5 := (hT 5 (by omega)).2.2.1
  rw [h3] at c3
  rw [h4] at c5
  rw [h1, h2]
  clear h1 h2 h3 h4 hT hO
  go_wp2_with fail
  refine (implIsWord_any _ _).mono ?_
  rintro e w2 ⟨rfl, rfl⟩
  rw [show wordB (ByteArray.mk #[112, 114, 111, 99]).toList = true from by rw [ByteArray.toList_eq]; decide]
  go_wp2_with fail
  refine (implNameOk_any _ _).mono ?_
  rintro e w3 ⟨⟨q, rfl, hq⟩, rfl⟩
  rw [hq.2 x1_ok]
  clear hq
  go_wp2_with fail
  refine (implTableOf_any _ _).mono ?_
  rintro e w4 ⟨rfl, rfl⟩
  rw [show tOf (ByteArray.mk #[68]).toList = 3 from by rw [ByteArray.toList_eq]; decide]
  go_wp2_with fail
  refine (implTableText_any _ _).mono ?_
  rintro e w5 ⟨rfl, rfl⟩
  rw [show tText 4 = ⟨#[35]⟩ from rfl]
  go_wp2
  go_ret
  exact ⟨rfl, hb⟩

end Go.Proofs.Ytfliahkcfnpjcab
