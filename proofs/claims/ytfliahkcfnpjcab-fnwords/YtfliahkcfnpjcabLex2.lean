/- Names: both NameOk functions. -/
import Derived.Test.YtfliahkcfnpjcabLex0
namespace Go.Proofs.Ytfliahkcfnpjcab
open Go.ChangeShapes Go.WideShapes Go.ChangeAt Go.RowKit
set_option linter.unusedVariables false
set_option maxRecDepth 100000
attribute [local go_sem ↓] Go.wp_at_zero Go.wp_at_succ
attribute [local go_sem] byte_eq

def nameOk (s : ByteArray) : Prop := 1 ≤ s.size ∧ s.size ≤ 20 ∧ letB (bAt s 0) = true ∧ wordB s.toList = false ∧ ∀ i, i < s.size → inB (bAt s i) = true

theorem empty_of {s : ByteArray} (h : s.size = 0) : (s.toList == []) = true := by
  rw [ByteArray.toList_eq]
  have h2 : s.data.toList.length = 0 := h
  rw [List.length_eq_zero_iff] at h2
  simp [h2]
theorem not_empty_of {s : ByteArray} (h : 1 ≤ s.size) : (s.toList == []) = false := by
  rw [ByteArray.toList_eq, beq_eq_false_iff_ne]
  intro h2
  have h3 : s.size = 0 := by show s.data.toList.length = 0; rw [h2]; rfl
  omega

set_option maxHeartbeats 1000000 in
theorem implNameOk_any (s : ByteArray) (w : World) :
    Calls Try.prog 29 #[.string s] w fun e w' => LSays e (nameOk s) ∧ w' = w := by
  by_cases h1 : s.size = 0
  · have hE := empty_of h1
    go_enter Try.func29, Try.ntmps29
    go_wp2
    go_ret
    exact ⟨lsays_no (fun h => by have := h.1; omega), rfl⟩
  have h1' : 0 < s.size := by omega
  have hE := not_empty_of (s := s) h1'
  by_cases h2 : 20 < s.size
  · go_enter Try.func29, Try.ntmps29
    go_wp2
    go_ret
    exact ⟨lsays_no (fun h => by have := h.2.1; omega), rfl⟩
  go_enter Try.func29, Try.ntmps29
  go_wp2_with fail
  refine (isLetter_any _ _).mono ?_
  rintro e w1 ⟨rfl, rfl⟩
  by_cases h3 : letB (bAt s 0) = true
  · go_wp2_with fail
    refine (implIsWord_any _ _).mono ?_
    rintro e w2 ⟨rfl, rfl⟩
    by_cases h4 : wordB s.toList = true
    · go_wp2
      go_ret
      exact ⟨lsays_no (fun h => by have := h.2.2.2.1; simp [h4] at this), rfl⟩
    have h4' : wordB s.toList = false := by simpa using h4
    go_wp2
    go_loop [23] (fun i => ∃ k : Nat, k ≤ s.size ∧ i = .int .i64 k ∧ ∀ j, j < k → inB (bAt s j) = true) (fun i => s.size - (intOf i).toNat)
    case atStart => exact ⟨0, Nat.zero_le _, rfl, fun j hj => absurd hj (Nat.not_lt_zero _)⟩
    case round =>
      obtain ⟨k, hk, rfl, hs⟩ := hrel
      by_cases hlt : k < s.size
      · have n0 : (0 : Int) ≤ (k : Int) := by omega
        have n1 : (k : Int) < (s.size : Int) := by omega
        go_wp2_with fail
        refine (isNameByte_any _ _).mono ?_
        rintro e w3 ⟨rfl, rfl⟩
        by_cases h5 : inB (bAt s k) = true
        · go_wp2
          go_round
          case rel =>
            refine ⟨k + 1, by omega, by go_num, fun j hj => ?_⟩
            by_cases e : j = k
            · subst e; exact h5
            · exact hs j (by omega)
          case measure => simp [intOf]; omega
        · have h5' : inB (bAt s k) = false := by simpa using h5
          go_wp2
          go_ret
          exact ⟨lsays_no (fun h => by have := h.2.2.2.2 k hlt; simp [h5'] at this), rfl⟩
      · have hkk : k = s.size := by omega
        subst hkk
        go_wp2
        go_ret
        exact ⟨lsays_yes ⟨by omega, by omega, h3, h4', hs⟩, rfl⟩
  · have h3' : letB (bAt s 0) = false := by simpa using h3
    go_wp2
    go_ret
    exact ⟨lsays_no (fun h => by have := h.2.2.1; simp [h3'] at this), rfl⟩

end Go.Proofs.Ytfliahkcfnpjcab
