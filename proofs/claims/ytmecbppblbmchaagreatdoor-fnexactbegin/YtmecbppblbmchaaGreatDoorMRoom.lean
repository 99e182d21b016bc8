import Derived.Test.YtmecbppblbmchaaGreatDoorCopyG
/- The program's hasRoom. -/
namespace Go.Proofs.YtmecbppblbmchaaGreatDoor
open Go.ChangeShapes Go.WideShapes Go.ChangeAt Go.RowKit Go.Sort
set_option linter.unusedVariables false
set_option maxRecDepth 100000
attribute [local go_sem ↓] Go.wp_at_zero Go.wp_at_succ

def refE (c : Int) : Value := .iface 113 (.agg #[.int .i64 c])
theorem hasRoom_any (a1 a2 a3 : Option Addr) (n1 c1 n2 c2 n3 c3 : Nat) (c n : Int) (w : World) (hn : n3 ≤ 1048580) :
    Calls Tryz.prog 70 #[.agg #[.slice a1 n1 c1, .int .i64 c, .int .i64 n, .slice a2 n2 c2, .slice a3 n3 c3]] w fun e w' => e = .returned (.bool (decide (n3 ≤ 2998))) ∧ Below w.heap.size w w' := by
  by_cases h : n3 ≤ 2998
  · have h' : (n3 : Int) ≤ 2998 := by omega
    go_enter Tryz.func70, Tryz.ntmps70
    go_wp2
    go_ret
    exact ⟨by rw [decide_eq_true h]; rfl, (Below.refl _ _).alloc (Nat.le_refl _) _⟩
  · have h' : ¬ (n3 : Int) ≤ 2998 := by omega
    go_enter Tryz.func70, Tryz.ntmps70
    go_wp2
    go_ret
    exact ⟨by first | rfl | (rw [decide_eq_false h]; rfl), (Below.refl _ _).alloc (Nat.le_refl _) _⟩

end Go.Proofs.YtmecbppblbmchaaGreatDoor
