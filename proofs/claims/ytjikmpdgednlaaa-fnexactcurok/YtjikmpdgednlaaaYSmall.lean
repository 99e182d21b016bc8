/- The program's small functions on nodes. -/
import Derived.Test.YtjikmpdgednlaaaXTree3
namespace Go.Proofs.Ytjikmpdgednlaaa
open Go.ChangeShapes Go.WideShapes Go.ChangeAt Go.RowKit
set_option linter.unusedVariables false
set_option maxRecDepth 100000
attribute [local go_sem ↓] Go.wp_at_zero Go.wp_at_succ

/-- Where a node may stand: an expression (1), a statement (2), a block (3), nowhere (0). -/
def roleI (k : Int) : Int := if 0 ≤ k ∧ k ≤ 9 then 1 else if 20 ≤ k ∧ k ≤ 26 then 2 else if k = 27 then 3 else 0

set_option maxHeartbeats 1000000 in
theorem roleOf_any (k : Int) (w : World) : Calls Try.prog 86 #[.int .i64 k] w fun e w' => e = .returned (.int .i64 (roleI k)) ∧ w' = w := by
  by_cases h0 : 0 ≤ k
  · by_cases h9 : k ≤ 9
    · have e : roleI k = 1 := by rw [roleI, if_pos ⟨h0, h9⟩]
      rw [e]
      go_enter Try.func86, Try.ntmps86
      go_wp2
      go_ret
      exact ⟨rfl, rfl⟩
    by_cases h20 : 20 ≤ k
    · by_cases h26 : k ≤ 26
      · have e : roleI k = 2 := by rw [roleI, if_neg (by omega), if_pos ⟨h20, h26⟩]
        rw [e]
        go_enter Try.func86, Try.ntmps86
        go_wp2
        go_ret
        exact ⟨rfl, rfl⟩
      by_cases h27 : k = 27
      · subst h27
        go_enter Try.func86, Try.ntmps86
        go_wp2
        go_ret
        exact ⟨rfl, rfl⟩
      · have e : roleI k = 0 := by rw [roleI, if_neg (by omega), if_neg (by omega), if_neg h27]
        rw [e]
        go_enter Try.func86, Try.ntmps86
        go_wp2
        go_ret
        exact ⟨rfl, rfl⟩
    · have h27 : ¬ k = 27 := by omega
      have e : roleI k = 0 := by rw [roleI, if_neg (by omega), if_neg (by omega), if_neg h27]
      rw [e]
      go_enter Try.func86, Try.ntmps86
      go_wp2
      go_ret
      exact ⟨rfl, rfl⟩
  · have h20 : ¬ 20 ≤ k := by omega
    have h27 : ¬ k = 27 := by omega
    have e : roleI k = 0 := by rw [roleI, if_neg (by omega), if_neg (by omega), if_neg h27]
    rw [e]
    go_enter Try.func86, Try.ntmps86
    go_wp2
    go_ret
    exact ⟨rfl, rfl⟩

set_option maxHeartbeats 1000000 in
theorem wrongTimes_any (x : Nd) (a : Option Addr) (n c : Nat) (w : World) : Calls Try.prog 67 #[.agg #[.int .i64 x.k, .string x.s, .int .i64 x.n, .slice a n c]] w fun e w' => e = .returned (.bool (wrongT x)) ∧ Below w.heap.size w w' := by
  have bA : Below w.heap.size w (w.alloc (Obj.cells #[.int .i64 x.k, .string x.s, .int .i64 x.n, .slice a n c] 72)) := (Below.refl _ _).alloc (Nat.le_refl _) _
  obtain ⟨k, s, m, ks⟩ := x
  simp only [wrongT] at *
  by_cases k1 : k = 24
  · subst k1
    by_cases m1 : m < 1
    · have e : (decide ((24 : Int) = 24) && (decide (m < 1) || decide (4 < m))) = true := by simp [m1]
      rw [e]
      go_enter Try.func67, Try.ntmps67
      go_wp2
      go_ret
      exact ⟨rfl, bA⟩
    · by_cases m2 : 4 < m
      · have e : (decide ((24 : Int) = 24) && (decide (m < 1) || decide (4 < m))) = true := by simp [m2]
        rw [e]
        go_enter Try.func67, Try.ntmps67
        go_wp2
        go_ret
        exact ⟨rfl, bA⟩
      · have e : (decide ((24 : Int) = 24) && (decide (m < 1) || decide (4 < m))) = false := by simp; omega
        rw [e]
        go_enter Try.func67, Try.ntmps67
        go_wp2
        go_ret
        exact ⟨rfl, bA⟩
  · have e : (decide (k = 24) && (decide (m < 1) || decide (4 < m))) = false := by simp [k1]
    rw [e]
    have kb : (k == 24) = false := beq_eq_false_iff_ne.2 k1
    go_enter Try.func67, Try.ntmps67
    go_wp2
    go_ret
    exact ⟨rfl, bA⟩

end Go.Proofs.Ytjikmpdgednlaaa
