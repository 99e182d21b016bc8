/- Tables and keys: what is ahead of what. -/
import Derived.Test.YtifdfelpbonckaaRows
import Derived.Test.YtifdfelpbonckaaSays
import Derived.Outline
import Derived.Deep.RegionHeld3
import Derived.Deep.DrawnRows
import Derived.Deep.QuietTactic
import Derived.BigQuiet
import Derived.Lib.QuietBelow
namespace Go.Proofs.Ytifdfelpbonckaa
open Go.ChangeShapes Go.WideShapes Go.ChangeAt Go.RowKit Go.Sort
set_option linter.unusedVariables false
set_option maxRecDepth 100000
attribute [local go_sem ↓] Go.wp_at_zero Go.wp_at_succ

def tabB (t : Int) : Bool := decide (0 ≤ t ∧ t < 5)

def klB (a b c d : Int) : Bool := decide (a < c ∨ a = c ∧ b < d)

theorem tabB_iff (t : Int) : tabB t = true ↔ 0 ≤ t ∧ t < 5 := by simp [tabB]

theorem klB_iff (a b c d : Int) : klB a b c d = true ↔ (a < c ∨ a = c ∧ b < d) := by simp [klB]

theorem isTable_any (t : Int) (w : World) :
    Calls Try.prog 34 #[.int .i64 t] w fun e w' => e = .returned (.bool (tabB t)) ∧ w' = w := by
  by_cases h1 : 0 ≤ t
  · by_cases h2 : t < 5
    · go_enter Try.func34, Try.ntmps34
      go_wp2
      go_ret
      exact ⟨by simp [tabB, h1, h2], rfl⟩
    · go_enter Try.func34, Try.ntmps34
      go_wp2
      go_ret
      exact ⟨by simp [tabB, h1, h2], rfl⟩
  · go_enter Try.func34, Try.ntmps34
    go_wp2
    go_ret
    exact ⟨by simp [tabB]; omega, rfl⟩

theorem implKeyLess_any (a b c d : Int) (w : World) :
    Calls Try.prog 46 #[.agg #[.int .i64 a, .int .i64 b], .agg #[.int .i64 c, .int .i64 d]] w fun e w' => e = .returned (.bool (klB a b c d)) ∧ Below w.heap.size w w' := by
  have hb : Below w.heap.size w ((w.alloc (Obj.cells #[Value.int IntKind.i64 a, Value.int IntKind.i64 b] 36)).alloc (Obj.cells #[Value.int IntKind.i64 c, Value.int IntKind.i64 d] 36)) := (((Below.refl _ _).alloc (Nat.le_refl _) _).alloc (by simp) _)
  by_cases h1 : a < c
  · go_enter Try.func46, Try.ntmps46
    go_wp2
    go_ret
    exact ⟨by simp [klB, h1], hb⟩
  · by_cases h2 : a = c
    · subst h2
      by_cases h3 : b < d
      · go_enter Try.func46, Try.ntmps46
        go_wp2
        go_ret
        exact ⟨by simp [klB, h3], hb⟩
      · go_enter Try.func46, Try.ntmps46
        go_wp2
        go_ret
        exact ⟨by simp [klB, h3], hb⟩
    · go_enter Try.func46, Try.ntmps46
      go_wp2
      go_ret
      exact ⟨by simp [klB, h1, h2], hb⟩

theorem isTable_below (t : Int) (w : World) : Calls Try.prog 34 #[.int .i64 t] w fun e w' => e = .returned (.bool (tabB t)) ∧ Below w.heap.size w w' := by
  refine (isTable_any t w).mono ?_
  rintro e w' ⟨rfl, rfl⟩
  exact ⟨rfl, Below.refl _ _⟩

theorem klB_trans {a b c d e f : Int} (h1 : klB a b c d = true) (h2 : klB c d e f = true) : klB a b e f = true := by
  rw [klB_iff] at *; omega

end Go.Proofs.Ytifdfelpbonckaa
