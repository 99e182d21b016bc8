/- The exact law of MgrNew returns true, in every world. -/
import Derived.Test.YtgohdlgnmlekdajMNil
import Derived.ChangeOld
namespace Go.Proofs.Ytgohdlgnmlekdaj
open Go.ChangeShapes Go.WideShapes Go.ChangeAt Go.RowKit Go.Sort
set_option linter.unusedVariables false
set_option maxRecDepth 100000
attribute [local go_sem ↓] Go.wp_at_zero Go.wp_at_succ

theorem specMgrNew_any (w : World) : Calls Try.prog 33 #[] w fun e w' => e = .returned (.agg #[Value.slice none 0 0, Value.int IntKind.i64 0, Value.int IntKind.i64 1, Value.slice none 0 0, Value.slice none 0 0]) ∧ Below w.heap.size w w' := by
  go_enter Try.func33, Try.ntmps33
  go_wp2
  refine bodyPost_ret (v := .agg #[Value.slice none 0 0, Value.int IntKind.i64 0, Value.int IntKind.i64 1, Value.slice none 0 0, Value.slice none 0 0]) (by simp [results, Try.results33, go_sem]) rfl ⟨rfl, ?_⟩
  repeat (first | exact Below.refl _ _ | refine Below.alloc ?_ (by simp) _ | refine Below.setCell ?_ (by simp) _)
theorem implMgrNew_any (w : World) : Calls Try.prog 34 #[] w fun e w' => e = .returned (.agg #[Value.slice none 0 0, Value.int IntKind.i64 0, Value.int IntKind.i64 1, Value.slice none 0 0, Value.slice none 0 0]) ∧ Below w.heap.size w w' := by
  go_enter Try.func34, Try.ntmps34
  go_wp2
  refine bodyPost_ret (v := .agg #[Value.slice none 0 0, Value.int IntKind.i64 0, Value.int IntKind.i64 1, Value.slice none 0 0, Value.slice none 0 0]) (by simp [results, Try.results34, go_sem]) rfl ⟨rfl, ?_⟩
  repeat (first | exact Below.refl _ _ | refine Below.alloc ?_ (by simp) _ | refine Below.setCell ?_ (by simp) _)

/-- Block b is a new state of the whole. -/
def Box (x : World) (b : Nat) : Prop := b < x.heap.size ∧ x.cell? ⟨b, 0, none⟩ = some (.slice none 0 0) ∧ x.cell? ⟨b, 1, none⟩ = some (.int .i64 0) ∧ x.cell? ⟨b, 2, none⟩ = some (.int .i64 1) ∧ x.cell? ⟨b, 3, none⟩ = some (.slice none 0 0) ∧ x.cell? ⟨b, 4, none⟩ = some (.slice none 0 0)
theorem Box.stays {x y : World} {b : Nat} (h : Box x b) (hb : Below x.heap.size x y) : Box y b :=
  ⟨Nat.lt_of_lt_of_le h.1 hb.size, cell_stays hb h.2.1, cell_stays hb h.2.2.1, cell_stays hb h.2.2.2.1, cell_stays hb h.2.2.2.2.1, cell_stays hb h.2.2.2.2.2⟩
theorem Box.new (x : World) : Box (x.alloc (Obj.cells #[Value.slice none 0 0, Value.int IntKind.i64 0, Value.int IntKind.i64 1, Value.slice none 0 0, Value.slice none 0 0] 59)) x.heap.size := ⟨by simp, by simp, by simp, by simp, by simp, by simp⟩
theorem Box.kept {x : World} {b : Nat} (h : Box x b) : x.cell? ⟨b, 0, none⟩ = some (.slice none 0 0) ∧ x.cell? ⟨b, 1, none⟩ = some (.int .i64 0) ∧ x.cell? ⟨b, 2, none⟩ = some (.int .i64 1) ∧ x.cell? ⟨b, 3, none⟩ = some (.slice none 0 0) ∧ x.cell? ⟨b, 4, none⟩ = some (.slice none 0 0) := h.2

set_option maxHeartbeats 1000000 in
theorem exactMgrNew_any (w : World) : Calls Try.prog 8 #[] w fun e w' => e = .returned (.bool true) ∧ Below w.heap.size w w' := by
  go_enter Try.func8, Try.ntmps8
  go_wp2_with fail
  refine (specMgrNew_any _).mono ?_
  rintro e w1 ⟨rfl, b1⟩
  have x1 := Box.new w1
  have a1 : Below w.heap.size w (w1.alloc (Obj.cells #[Value.slice none 0 0, Value.int IntKind.i64 0, Value.int IntKind.i64 1, Value.slice none 0 0, Value.slice none 0 0] 59)) := b1.alloc b1.size _
  go_wp2_with fail
  refine (implMgrNew_any _).mono ?_
  rintro e w2 ⟨rfl, hb2⟩
  have b2 := a1.trans (hb2.mono a1.size)
  have x2 := x1.stays hb2
  have z12 : w1.heap.size < w2.heap.size := x2.1
  have y3 := Box.new w2
  have b3 : Below w.heap.size w (w2.alloc (Obj.cells #[Value.slice none 0 0, Value.int IntKind.i64 0, Value.int IntKind.i64 1, Value.slice none 0 0, Value.slice none 0 0] 59)) := b2.alloc b2.size _
  have x3 := x2.stays ((Below.refl _ _).alloc (Nat.le_refl _) (Obj.cells #[Value.slice none 0 0, Value.int IntKind.i64 0, Value.int IntKind.i64 1, Value.slice none 0 0, Value.slice none 0 0] 59))
  clear b1 a1 hb2 b2 x1 x2
  obtain ⟨p0, p1, p2, p3, p4⟩ := x3.kept
  go_wp2_with fail
  refine (eqMgr_nil _ _ _).mono ?_
  rintro e w4 ⟨rfl, hb4⟩
  have b4 := b3.trans (hb4.mono b3.size)
  have x4 := x3.stays hb4
  have y4 := y3.stays hb4
  clear hb4 b3 x3 y3 p0 p1 p2 p3 p4
  obtain ⟨p0, p1, p2, p3, p4⟩ := x4.kept
  obtain ⟨q0, q1, q2, q3, q4⟩ := y4.kept
  go_wp2_with fail
  refine (markMgr_nil _ _ 1 _).mono ?_
  rintro e w5 ⟨rfl, hb5⟩
  have b5 := b4.trans (hb5.mono b4.size)
  have x5 := x4.stays hb5
  have y5 := y4.stays hb5
  clear hb5 b4 x4 y4 p0 p1 p2 p3 p4 q0 q1 q2 q3 q4
  obtain ⟨p0, p1, p2, p3, p4⟩ := x5.kept
  obtain ⟨q0, q1, q2, q3, q4⟩ := y5.kept
  go_wp2_with fail
  refine (heldMgr_nil _ _ 1 _).mono ?_
  rintro e w6 ⟨rfl, hb6⟩
  have b6 := b5.trans (hb6.mono b5.size)
  have x6 := x5.stays hb6
  have y6 := y5.stays hb6
  clear hb6 b5 x5 y5 p0 p1 p2 p3 p4 q0 q1 q2 q3 q4
  go_wp2_with fail
  refine (implMgrNew_any _).mono ?_
  rintro e w7 ⟨rfl, hb7⟩
  have b7 := b6.trans (hb7.mono b6.size)
  have x7 := x6.stays hb7
  have y7 := y6.stays hb7
  have zx := x7.1
  have zy := y7.1
  have b8 : Below w.heap.size w (w7.alloc (Obj.cells #[Value.slice none 0 0, Value.int IntKind.i64 0, Value.int IntKind.i64 1, Value.slice none 0 0, Value.slice none 0 0] 59)) := b7.alloc b7.size _
  have x8 := x7.stays ((Below.refl _ _).alloc (Nat.le_refl _) (Obj.cells #[Value.slice none 0 0, Value.int IntKind.i64 0, Value.int IntKind.i64 1, Value.slice none 0 0, Value.slice none 0 0] 59))
  have y8 := y7.stays ((Below.refl _ _).alloc (Nat.le_refl _) (Obj.cells #[Value.slice none 0 0, Value.int IntKind.i64 0, Value.int IntKind.i64 1, Value.slice none 0 0, Value.slice none 0 0] 59))
  clear hb7 b6 b7 x6 y6 x7 y7
  obtain ⟨p0, p1, p2, p3, p4⟩ := x8.kept
  obtain ⟨q0, q1, q2, q3, q4⟩ := y8.kept
  go_wp2_with fail
  refine (eqMgr_nil _ _ _).mono ?_
  rintro e w9 ⟨rfl, hb9⟩
  have b9 := b8.trans (hb9.mono b8.size)
  have y9 := y8.stays hb9
  clear hb9 b8 x8 y8 p0 p1 p2 p3 p4 q0 q1 q2 q3 q4
  obtain ⟨q0, q1, q2, q3, q4⟩ := y9.kept
  go_wp2_with fail
  refine (heldMgr_nil _ _ 1 _).mono ?_
  rintro e w10 ⟨rfl, hb10⟩
  have b10 := b9.trans (hb10.mono b9.size)
  clear hb10 b9 y9 q0 q1 q2 q3 q4
  go_wp2
  go_ret
  exact ⟨rfl, b10⟩

/-! ### The row -/

theorem own : ownKnob Try.prog.godebug = none := by kernel_rfl
theorem laidOut : laidOutB Try.prog = true := by kernel_rfl

set_option maxRecDepth 100000 in
theorem liftedMgrNew (os : Os) (started : os.Started) (H : Type) (enc : TypeId × Value → H) :
    ReturnsInHanded {} Try.checked os 8 .any (Rows.fnExactMgrNewSpec.pre6 enc Try.prog Try.f8 Rows.fnExactMgrNewRow.domain false) (Rows.fnExactMgrNewSpec.post enc Try.prog Try.f8 false true false false) := by
  refine returnsInHanded_of_change (C := Try.checked) own started (by kernel_rfl) Try.func8
    (ChangeSpec.witness6 (enc := enc) (C := Try.checked) false ⟨#[], #[], []⟩ 8 (by kernel_rfl) (by kernel_rfl) (by kernel_rfl) (by kernel_rfl)) ?_
  intro W base args ds gs before hval0 hW hcnd _
  have hW' := hW
  obtain ⟨p, q, hA0, hV, rfl, hfz, hnd⟩ := hW
  have hA : DataW.TrodAll enc Try.prog W 0 (fun _ => true) true Try.f8.params.toList args.toList ds p := hA0
  rw [Try.params8] at hA
  obtain ⟨hargs, rfl, rfl⟩ := trodAll_nil hA
  obtain rfl : args = #[] := by cases args; simp_all
  obtain ⟨rfl, rfl⟩ := trodVars_none hV
  clear hA0 hval0
  refine (exactMgrNew_any W).mono fun e W' ⟨he, bel⟩ => ?_
  subst he
  exact ⟨_, rfl, _, _, _, [], _, [], hW', trodAll_mk1 (shut_bool Try.underlying4 _), trodAll_mk0, rfl, bel.frame _, fun h => by cases h⟩

theorem exactMgrNew_holds : Rows.FnExactMgrNewSaid :=
  OpenClaim.holds_of_wide 8 Try.f8 rfl rfl rfl rfl rfl rfl rfl ⟨rfl, rfl, rfl, rfl, rfl⟩ rfl rfl rfl rfl rfl (by kernel_rfl) Try.func8 (by kernel_rfl)
    (of_decide_eq_true (by kernel_rfl)) (by unfold Func.isWrapper; first | (rw [if_pos (by decide +kernel)]; kernel_rfl) | (rw [if_neg (by decide +kernel)]; exact ⟨rfl, rfl⟩))
    (fun os started H enc _ => liftedMgrNew os started H enc)

#print axioms exactMgrNew_holds
end Go.Proofs.Ytgohdlgnmlekdaj
