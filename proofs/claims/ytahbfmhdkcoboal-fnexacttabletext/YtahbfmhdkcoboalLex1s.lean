/- spec.TableText. -/
import Derived.Test.YtahbfmhdkcoboalLex1
namespace Go.Proofs.Ytahbfmhdkcoboal
open Go.ChangeShapes Go.WideShapes Go.ChangeAt Go.RowKit
set_option linter.unusedVariables false
set_option maxRecDepth 100000
attribute [local go_sem ↓] Go.wp_at_zero Go.wp_at_succ
attribute [local go_sem] byte_eq

theorem specTableText_any (t : Int) (w : World) :
    Calls Try.prog 14 #[.int .i64 t] w fun e w' => e = .returned (.string (tText t)) ∧ w' = w := by
  by_cases h0 : t < 0
  · go_enter Try.func14, Try.ntmps14
    go_wp2
    go_ret
    exact ⟨by rw [tText_out (.inl h0)]; rfl, rfl⟩
  by_cases h5 : 5 ≤ t
  · go_enter Try.func14, Try.ntmps14
    go_wp2
    go_ret
    exact ⟨by rw [tText_out (.inr h5)]; rfl, rfl⟩
  have : t = 0 ∨ t = 1 ∨ t = 2 ∨ t = 3 ∨ t = 4 := by omega
  rcases this with rfl | rfl | rfl | rfl | rfl
  all_goals
    go_enter Try.func14, Try.ntmps14
    go_wp2
    go_ret
    exact ⟨rfl, rfl⟩

end Go.Proofs.Ytahbfmhdkcoboal
