/- The functions of the laws at a state of the whole that has no list: nothing to do. -/
import Derived.Test.YtgohdlgnmlekdajHeld
namespace Go.Proofs.Ytgohdlgnmlekdaj
open Go.ChangeShapes Go.WideShapes Go.ChangeAt Go.RowKit Go.Sort
set_option linter.unusedVariables false
set_option maxRecDepth 100000
attribute [local go_sem ↓] Go.wp_at_zero Go.wp_at_succ

theorem eqTxS_nil (w : World) : Calls Try.prog 69 #[.slice none 0 0, .slice none 0 0] w fun e w' => e = .returned (.bool true) ∧ w' = w := by
  go_enter Try.func69, Try.ntmps69
  go_wp2
  refine wp_loop_rounds 1 ?_
  rw [rounds_succ]
  go_wp2
  go_ret
  exact ⟨rfl, rfl⟩
theorem eqEvS_nil (w : World) : Calls Try.prog 70 #[.slice none 0 0, .slice none 0 0] w fun e w' => e = .returned (.bool true) ∧ w' = w := by
  go_enter Try.func70, Try.ntmps70
  go_wp2
  refine wp_loop_rounds 1 ?_
  rw [rounds_succ]
  go_wp2
  go_ret
  exact ⟨rfl, rfl⟩
theorem markTxS_nil (k : Nat) (w : World) : Calls Try.prog 71 #[.slice none 0 0, .int .i64 k] w fun e w' => e = .returned (.int .i64 (k : Int)) ∧ w' = w := by
  go_enter Try.func71, Try.ntmps71
  go_wp2
  refine wp_loop_rounds 1 ?_
  rw [rounds_succ]
  go_wp2
  go_ret
  exact ⟨rfl, rfl⟩
theorem markEvS_nil (k : Nat) (w : World) : Calls Try.prog 72 #[.slice none 0 0, .int .i64 k] w fun e w' => e = .returned (.int .i64 (k : Int)) ∧ w' = w := by
  go_enter Try.func72, Try.ntmps72
  go_wp2
  refine wp_loop_rounds 1 ?_
  rw [rounds_succ]
  go_wp2
  go_ret
  exact ⟨rfl, rfl⟩
theorem heldTxS_nil (k : Nat) (w : World) : Calls Try.prog 73 #[.slice none 0 0, .int .i64 k] w fun e w' => e = .returned (.int .i64 (k : Int)) ∧ w' = w := by
  go_enter Try.func73, Try.ntmps73
  go_wp2
  refine wp_loop_rounds 1 ?_
  rw [rounds_succ]
  go_wp2
  go_ret
  exact ⟨rfl, rfl⟩
theorem heldEvS_nil (k : Nat) (w : World) : Calls Try.prog 74 #[.slice none 0 0, .int .i64 k] w fun e w' => e = .returned (.int .i64 (k : Int)) ∧ w' = w := by
  go_enter Try.func74, Try.ntmps74
  go_wp2
  refine wp_loop_rounds 1 ?_
  rw [rounds_succ]
  go_wp2
  go_ret
  exact ⟨rfl, rfl⟩

/-- A state of the whole with no list. -/
def mNil (c n : Int) : Value := .agg #[.slice none 0 0, .int .i64 c, .int .i64 n, .slice none 0 0, .slice none 0 0]

theorem chainsNil (lo hi : Nat) (w : World) : ChainsAt lo hi w (.slice none 0 0) [] := ⟨none, 0, rfl, Nat.zero_le _, fun h => absurd h (Nat.lt_irrefl _)⟩

theorem eqMgr_nil (c n : Int) (w : World) : Calls Try.prog 32 #[.agg #[.slice none 0 0, .int .i64 c, .int .i64 n, .slice none 0 0, .slice none 0 0], .agg #[.slice none 0 0, .int .i64 c, .int .i64 n, .slice none 0 0, .slice none 0 0]] w fun e w' => e = .returned (.bool true) ∧ Below w.heap.size w w' := by
  have hbx : Below w.heap.size w ((w.alloc (Obj.cells #[.slice none 0 0, .int .i64 c, .int .i64 n, .slice none 0 0, .slice none 0 0] 59)).alloc (Obj.cells #[.slice none 0 0, .int .i64 c, .int .i64 n, .slice none 0 0, .slice none 0 0] 59)) := ((Below.refl _ _).alloc (Nat.le_refl _) _).alloc (by simp) _
  go_enter Try.func32, Try.ntmps32
  go_wp2_with (first | (go_at_call 14; refine (eqStore_same _ _ [] _ (chainsNil 0 0 _) (chainsNil 0 0 _)).mono ?_; rintro e w1 ⟨rfl, hb1⟩; obtain ⟨hc1, hf1⟩ := bcell hb1) | (go_at_call 69; refine (eqTxS_nil _).mono ?_; rintro e w2 ⟨rfl, rfl⟩) | (go_at_call 70; refine (eqEvS_nil _).mono ?_; rintro e w3 ⟨rfl, rfl⟩))
  go_ret
  exact ⟨rfl, hbx.trans (hb1.mono hbx.size)⟩

theorem markMgr_nil (c n : Int) (k : Nat) (w : World) : Calls Try.prog 35 #[.agg #[.slice none 0 0, .int .i64 c, .int .i64 n, .slice none 0 0, .slice none 0 0], .int .i64 k] w fun e w' => e = .returned (.int .i64 (k : Int)) ∧ Below w.heap.size w w' := by
  have hbx : Below w.heap.size w (w.alloc (Obj.cells #[.slice none 0 0, .int .i64 c, .int .i64 n, .slice none 0 0, .slice none 0 0] 59)) := (Below.refl _ _).alloc (Nat.le_refl _) _
  go_enter Try.func35, Try.ntmps35
  go_wp2_with (first | (go_at_call 20; refine (markStore_nil k _).mono ?_; rintro e w1 ⟨rfl, hb1⟩; obtain ⟨hc1, hf1⟩ := bcell hb1) | (go_at_call 71; refine (markTxS_nil k _).mono ?_; rintro e w2 ⟨rfl, rfl⟩) | (go_at_call 72; refine (markEvS_nil k _).mono ?_; rintro e w3 ⟨rfl, rfl⟩))
  go_ret
  exact ⟨rfl, hbx.trans (hb1.mono hbx.size)⟩

theorem heldMgr_nil (c n : Int) (k : Nat) (w : World) : Calls Try.prog 36 #[.agg #[.slice none 0 0, .int .i64 c, .int .i64 n, .slice none 0 0, .slice none 0 0], .int .i64 k] w fun e w' => e = .returned (.int .i64 (k : Int)) ∧ Below w.heap.size w w' := by
  have hbx : Below w.heap.size w (w.alloc (Obj.cells #[.slice none 0 0, .int .i64 c, .int .i64 n, .slice none 0 0, .slice none 0 0] 59)) := (Below.refl _ _).alloc (Nat.le_refl _) _
  have hk0 : ¬ (k : Int) < 0 := by omega
  go_enter Try.func36, Try.ntmps36
  go_wp2_with (first | (go_at_call 22; refine (heldStore_nil k _).mono ?_; rintro e w1 ⟨rfl, hb1⟩; obtain ⟨hc1, hf1⟩ := bcell hb1) | (go_at_call 73; refine (heldTxS_nil k _).mono ?_; rintro e w2 ⟨rfl, rfl⟩) | (go_at_call 74; refine (heldEvS_nil k _).mono ?_; rintro e w3 ⟨rfl, rfl⟩))
  go_ret
  exact ⟨rfl, hbx.trans (hb1.mono hbx.size)⟩

end Go.Proofs.Ytgohdlgnmlekdaj
