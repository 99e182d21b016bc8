/- The words that have a meaning of their own, and the kinds of bytes. -/
import Derived.Test.YtkdlgglikhbnkacRows
import Derived.WalkKit
import Derived.ProofKit
import Derived.OpenShut
import Derived.Below
import Derived.Outline
import Derived.Deep.DrawnRows
namespace Go.Proofs.Ytkdlgglikhbnkac
open Go.ChangeShapes Go.WideShapes Go.ChangeAt Go.RowKit
set_option linter.unusedVariables false
set_option maxRecDepth 100000
attribute [local go_sem ↓] Go.wp_at_zero Go.wp_at_succ

def LSays (e : Ending) (p : Prop) : Prop := ∃ q : Bool, e = .returned (.bool q) ∧ (q = true ↔ p)
theorem lsays_yes {p : Prop} (h : p) : LSays (.returned (.bool true)) p := ⟨true, rfl, fun _ => h, fun _ => rfl⟩
theorem lsays_no {p : Prop} (h : ¬ p) : LSays (.returned (.bool false)) p := ⟨false, rfl, fun h' => by simp at h', fun h' => absurd h' h⟩

/-- The byte i of s. -/
def bAt (s : ByteArray) (i : Nat) : Int := ((s.data.toList.getD i 0).toNat : Int)
theorem byte_eq {s : ByteArray} {i : Nat} {h : i < s.size} : ((s[i]'h).toNat : Int) = bAt s i := by
  obtain ⟨⟨l⟩⟩ := s
  have hl : i < l.length := h
  have e : (ByteArray.mk ⟨l⟩)[i]'hl = l.getD i 0 := by
    simp only [List.getD, List.getElem?_eq_getElem hl, Option.getD_some]
    rfl
  rw [e]
  rfl
theorem bAt_nonneg (s : ByteArray) (i : Nat) : 0 ≤ bAt s i := by unfold bAt; omega
theorem bAt_lt (s : ByteArray) (i : Nat) : bAt s i < 256 := by
  have := (s.data.toList.getD i 0).toNat_lt
  unfold bAt
  omega

/-- The nine words. -/
def wordL : List (List UInt8) := [[112, 114, 111, 99], [114, 101, 97, 100], [119, 114, 105, 116, 101], [105, 102], [101, 108, 115, 101], [102, 111, 114], [105, 110], [97, 98, 111, 114, 116], [114, 101, 116, 117, 114, 110]]
def wAt (i : Nat) : List UInt8 := wordL.getD i []
def wordB (l : List UInt8) : Bool := l == [112, 114, 111, 99] || l == [114, 101, 97, 100] || l == [119, 114, 105, 116, 101] || l == [105, 102] || l == [101, 108, 115, 101] || l == [102, 111, 114] || l == [105, 110] || l == [97, 98, 111, 114, 116] || l == [114, 101, 116, 117, 114, 110]
theorem wordB_iff (l : List UInt8) : wordB l = true ↔ ∃ i, i < 9 ∧ wAt i = l := by
  constructor
  · intro h
    simp only [wordB, Bool.or_eq_true, beq_iff_eq] at h
    rcases h with (((((((h | h) | h) | h) | h) | h) | h) | h) | h
    · exact ⟨0, by omega, h.symm⟩
    · exact ⟨1, by omega, h.symm⟩
    · exact ⟨2, by omega, h.symm⟩
    · exact ⟨3, by omega, h.symm⟩
    · exact ⟨4, by omega, h.symm⟩
    · exact ⟨5, by omega, h.symm⟩
    · exact ⟨6, by omega, h.symm⟩
    · exact ⟨7, by omega, h.symm⟩
    · exact ⟨8, by omega, h.symm⟩
  · rintro ⟨i, hi, rfl⟩
    have : i = 0 ∨ i = 1 ∨ i = 2 ∨ i = 3 ∨ i = 4 ∨ i = 5 ∨ i = 6 ∨ i = 7 ∨ i = 8 := by omega
    rcases this with rfl | rfl | rfl | rfl | rfl | rfl | rfl | rfl | rfl <;> decide

theorem implIsWord_any (s : ByteArray) (w : World) :
    Calls Try.prog 48 #[.string s] w fun e w' => e = .returned (.bool (wordB s.toList)) ∧ w' = w := by
  go_enter Try.func48, Try.ntmps48
  go_wp2
  all_goals (go_ret; simp_all [wordB])

def letB (b : Int) : Bool := decide (97 ≤ b ∧ b ≤ 122)
def digB (b : Int) : Bool := decide (48 ≤ b ∧ b ≤ 57)
def inB (b : Int) : Bool := letB b || digB b || decide (b = 95)

theorem isLetter_any (b : Int) (w : World) :
    Calls Try.prog 29 #[.int .u8 b] w fun e w' => e = .returned (.bool (letB b)) ∧ w' = w := by
  by_cases h1 : 97 ≤ b <;> by_cases h2 : b ≤ 122 <;>
    (go_enter Try.func29, Try.ntmps29; go_wp2; go_ret; simp_all [letB]; try omega)

theorem isDigit_any (b : Int) (w : World) :
    Calls Try.prog 28 #[.int .u8 b] w fun e w' => e = .returned (.bool (digB b)) ∧ w' = w := by
  by_cases h1 : 48 ≤ b <;> by_cases h2 : b ≤ 57 <;>
    (go_enter Try.func28, Try.ntmps28; go_wp2; go_ret; simp_all [digB]; try omega)

theorem isNameByte_any (b : Int) (w : World) :
    Calls Try.prog 34 #[.int .u8 b] w fun e w' => e = .returned (.bool (inB b)) ∧ w' = w := by
  go_enter Try.func34, Try.ntmps34
  go_wp2_with fail
  refine (isLetter_any b _).mono ?_
  rintro e w1 ⟨rfl, rfl⟩
  by_cases h1 : letB b = true
  · go_wp2
    go_ret
    simp_all [inB]
  have h1' : letB b = false := by simpa using h1
  go_wp2_with fail
  refine (isDigit_any b _).mono ?_
  rintro e w1 ⟨rfl, rfl⟩
  by_cases h2 : digB b = true
  · go_wp2
    go_ret
    simp_all [inB]
  have h2' : digB b = false := by simpa using h2
  go_wp2
  go_ret
  simp_all [inB]
  rfl

theorem l3small_any (b : Int) (w : World) :
    Calls Try.prog 54 #[.int .u8 b] w fun e w' => e = .returned (.bool (letB b)) ∧ w' = w := by
  by_cases h1 : 97 ≤ b <;> by_cases h2 : b ≤ 122 <;>
    (go_enter Try.func54, Try.ntmps54; go_wp2; go_ret; simp_all [letB]; try omega)

theorem l3digit_any (b : Int) (w : World) :
    Calls Try.prog 53 #[.int .u8 b] w fun e w' => e = .returned (.bool (digB b)) ∧ w' = w := by
  by_cases h1 : 48 ≤ b <;> by_cases h2 : b ≤ 57 <;>
    (go_enter Try.func53, Try.ntmps53; go_wp2; go_ret; simp_all [digB]; try omega)

theorem l3inner_any (b : Int) (w : World) :
    Calls Try.prog 55 #[.int .u8 b] w fun e w' => e = .returned (.bool (inB b)) ∧ w' = w := by
  go_enter Try.func55, Try.ntmps55
  go_wp2_with fail
  refine (l3small_any b _).mono ?_
  rintro e w1 ⟨rfl, rfl⟩
  by_cases h1 : letB b = true
  · go_wp2
    go_ret
    simp_all [inB]
  have h1' : letB b = false := by simpa using h1
  go_wp2_with fail
  refine (l3digit_any b _).mono ?_
  rintro e w1 ⟨rfl, rfl⟩
  by_cases h2 : digB b = true
  · go_wp2
    go_ret
    simp_all [inB]
  have h2' : digB b = false := by simpa using h2
  go_wp2
  go_ret
  simp_all [inB]
  rfl

/-- The block b holds the nine words. -/
def WordsAt (w : World) (b : Nat) : Prop := ∀ i, i < 9 → ∃ s : ByteArray, w.cell? ⟨b, i, none⟩ = some (.string s) ∧ s.toList = wAt i

theorem l3words_any (w : World) :
    Calls Try.prog 69 #[] w fun e w' => e = .returned (.slice (some ⟨w.heap.size, 0, none⟩) 9 9) ∧ WordsAt w' w.heap.size ∧ Below w.heap.size w w' := by
  go_enter Try.func69, Try.ntmps69
  go_wp2
  go_ret
  refine ⟨rfl, ?_, (Below.refl _ _).alloc (Nat.le_refl _) _⟩
  intro i hi
  have : i = 0 ∨ i = 1 ∨ i = 2 ∨ i = 3 ∨ i = 4 ∨ i = 5 ∨ i = 6 ∨ i = 7 ∨ i = 8 := by omega
  refine ⟨⟨(wAt i).toArray⟩, ?_, by simp⟩
  rcases this with rfl | rfl | rfl | rfl | rfl | rfl | rfl | rfl | rfl <;> simp [go_sem, wAt, wordL]

theorem specIsWord_any (s : ByteArray) (w : World) :
    Calls Try.prog 56 #[.string s] w fun e w' => e = .returned (.bool (wordB s.toList)) ∧ Below w.heap.size w w' := by
  go_enter Try.func56, Try.ntmps56
  go_wp2_with fail
  refine (l3words_any _).mono ?_
  rintro e w1 ⟨rfl, hw, hb⟩
  go_wp2
  go_loop [4] (fun i => ∃ k : Nat, k ≤ 9 ∧ i = .int .i64 k ∧ ∀ j, j < k → wAt j ≠ s.toList) (fun i => 9 - (intOf i).toNat)
  case atStart => exact ⟨0, Nat.zero_le _, rfl, fun j hj => absurd hj (Nat.not_lt_zero _)⟩
  case round =>
    obtain ⟨k, hk, rfl, hs⟩ := hrel
    by_cases hlt : k < 9
    · obtain ⟨x, c0, hx⟩ := hw k hlt
      by_cases he : wAt k = s.toList
      · have hq : (x.toList == s.toList) = true := by rw [hx]; simpa using he
        clear hx
        go_wp2
        go_ret
        refine ⟨?_, hb⟩
        rw [(wordB_iff _).mpr ⟨k, hlt, he⟩]
        rfl
      · have hq : (x.toList == s.toList) = false := by rw [hx]; simpa using he
        clear hx
        go_wp2
        go_round
        case rel =>
          refine ⟨k + 1, by omega, by go_num, fun j hj => ?_⟩
          by_cases e : j = k
          · subst e; exact he
          · exact hs j (by omega)
        case measure => simp [intOf]; omega
    · have hkk : k = 9 := by omega
      go_wp2
      go_ret
      refine ⟨?_, hb⟩
      have : wordB s.toList = false := by
        cases hh : wordB s.toList
        · rfl
        · obtain ⟨i, hi, he⟩ := (wordB_iff _).mp hh
          exact absurd he (hs i (by omega))
      rw [this]
      rfl

end Go.Proofs.Ytkdlgglikhbnkac
