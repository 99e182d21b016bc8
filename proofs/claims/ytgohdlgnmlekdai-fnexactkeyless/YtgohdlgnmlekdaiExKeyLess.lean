/- For every two keys, the exact law of KeyLess returns true and both keys read afterwards as they read before. -/
import Derived.Test.YtgohdlgnmlekdaiOk
import Derived.Test.YtgohdlgnmlekdaiCopy
import Derived.Test.YtgohdlgnmlekdaiOpen
import Derived.ChangeOld
namespace Go.Proofs.Ytgohdlgnmlekdai
open Go.ChangeShapes Go.WideShapes Go.ChangeAt Go.RowKit
set_option linter.unusedVariables false
attribute [local go_sem ↓] Go.wp_at_zero Go.wp_at_succ

theorem two_kept {a b c d : Int} {w x y : World} {B : Nat} (h : Below B w x ∧ B + 1 < x.heap.size ∧ x.cell? ⟨B, 0, none⟩ = some (.int .i64 a) ∧ x.cell? ⟨B, 1, none⟩ = some (.int .i64 b) ∧ x.cell? ⟨B + 1, 0, none⟩ = some (.int .i64 c) ∧ x.cell? ⟨B + 1, 1, none⟩ = some (.int .i64 d)) (hb : Below x.heap.size x y) :
    Below B w y ∧ B + 1 < y.heap.size ∧ y.cell? ⟨B, 0, none⟩ = some (.int .i64 a) ∧ y.cell? ⟨B, 1, none⟩ = some (.int .i64 b) ∧ y.cell? ⟨B + 1, 0, none⟩ = some (.int .i64 c) ∧ y.cell? ⟨B + 1, 1, none⟩ = some (.int .i64 d) := by
  obtain ⟨h0, h1, h2, h3, h4, h5⟩ := h
  refine ⟨h0.trans (hb.mono (by omega)), by have := hb.size; omega, ?_, ?_, ?_, ?_⟩
  all_goals (rw [hb.cell (by simp; omega)]; assumption)

theorem exactKeyLess_any (a b c d : Int) (w : World) :
    Calls Try.prog 3 #[.agg #[.int .i64 a, .int .i64 b], .agg #[.int .i64 c, .int .i64 d]] w fun e w' => e = .returned (.bool true) ∧ Below w.heap.size w w' := by
  go_enter Try.func3, Try.ntmps3
  go_wp2_with fail
  go_region_held3 (fun x => Below w.heap.size w x ∧ w.heap.size + 1 < x.heap.size ∧ x.cell? ⟨w.heap.size, 0, none⟩ = some (.int .i64 a) ∧ x.cell? ⟨w.heap.size, 1, none⟩ = some (.int .i64 b) ∧ x.cell? ⟨w.heap.size + 1, 0, none⟩ = some (.int .i64 c) ∧ x.cell? ⟨w.heap.size + 1, 1, none⟩ = some (.int .i64 d))
    (first | exact two_kept (by assumption) hb1 | (refine ⟨(((Below.refl _ _).alloc (Nat.le_refl _) _).alloc (by simp) _).drew, ?_, ?_, ?_, ?_, ?_⟩ <;> go_keep))
    (first | (go_at_call 7; refine (toKey_any _ _ _).mono ?_; rintro e w1 ⟨rfl, hb1⟩) | (go_at_call 6; refine (specKeyLess_any _ _ _ _ _).mono ?_; rintro e w1 ⟨rfl, hb1⟩))
  rename_i hH
  clear hb1
  go_wp2_with fail
  go_region_held3 (fun x => Below w.heap.size w x ∧ w.heap.size + 1 < x.heap.size ∧ x.cell? ⟨w.heap.size, 0, none⟩ = some (.int .i64 a) ∧ x.cell? ⟨w.heap.size, 1, none⟩ = some (.int .i64 b) ∧ x.cell? ⟨w.heap.size + 1, 0, none⟩ = some (.int .i64 c) ∧ x.cell? ⟨w.heap.size + 1, 1, none⟩ = some (.int .i64 d))
    (first | exact two_kept (by assumption) hb1 | exact two_kept hH (Below.refl _ _).drew)
    (first | (go_at_call 7; refine (toKey_any _ _ _).mono ?_; rintro e w1 ⟨rfl, hb1⟩) | (go_at_call 8; refine (implKeyLess_any _ _ _ _ _).mono ?_; rintro e w1 ⟨rfl, hb1⟩))
  rename_i hG
  clear hb1
  go_wp2
  go_ret
  exact ⟨rfl, hG.1⟩

theorem ownK : ownKnob Try.prog.godebug = none := by kernel_rfl
theorem laidOutK : laidOutB Try.prog = true := by kernel_rfl

set_option maxRecDepth 100000 in
theorem liftedKeyLess (os : Os) (started : os.Started) (H : Type) (enc : TypeId × Value → H) :
    ReturnsInHanded {} Try.checked os 3 .any (Rows.fnExactKeyLessSpec.pre6 enc Try.prog Try.f3 Rows.fnExactKeyLessRow.domain false) (Rows.fnExactKeyLessSpec.post enc Try.prog Try.f3 false true false false) := by
  refine returnsInHanded_of_change (C := Try.checked) ownK started (by kernel_rfl) Try.func3
    (ChangeSpec.witness6 (enc := enc) (C := Try.checked) false ⟨#[], #[.agg #[.int .i64 0, .int .i64 0], .agg #[.int .i64 0, .int .i64 0]], []⟩ 8 (by kernel_rfl) (by kernel_rfl) (by kernel_rfl) (by kernel_rfl)) ?_
  intro W base args ds gs before hval0 hW hcnd _
  have hval : ∀ (j : Nat) t v, Try.f3.params[j]? = some t → args[j]? = some v → Value.okWide Try.prog W .any base t v := hval0
  have hW' := hW
  obtain ⟨p, q, hA0, hV, rfl, hfz, hnd⟩ := hW
  have hA : DataW.TrodAll enc Try.prog W 0 (fun _ => true) true Try.f3.params.toList args.toList ds p := hA0
  rw [Try.params3] at hA hval
  obtain ⟨v0, vs0, d0, ds0, p0, q0, hargs, rfl, rfl, h0, r0⟩ := trodAll_cons hA
  obtain ⟨v1, vs1, d1, ds1, p1, q1, rfl, rfl, rfl, h1, r1⟩ := trodAll_cons r0
  obtain ⟨rfl, rfl, rfl⟩ := trodAll_nil r1
  obtain rfl : args = #[v0, v1] := by cases args; simp_all
  obtain ⟨rfl, rfl⟩ := trodVars_none hV
  have k0 := h0
  have lt0 : ∀ x ∈ p0, x.block < W.heap.size := by obtain ⟨m, hm⟩ := k0; exact DataW.trod_lt m _ _ _ hm
  have k1 := h1
  have lt1 : ∀ x ∈ p1, x.block < W.heap.size := by obtain ⟨m, hm⟩ := k1; exact DataW.trod_lt m _ _ _ hm
  obtain ⟨a, b, rfl, _, _⟩ := open_key (hval 0 23 v0 rfl rfl) h0
  obtain ⟨c, d, rfl, _, _⟩ := open_key (hval 1 23 v1 rfl rfl) h1
  clear hA0 hval0
  refine (exactKeyLess_any a b c d W).mono fun e W' ⟨he, bel⟩ => ?_
  subst he
  exact ⟨_, rfl, _, _, _, [], _, [], hW', trodAll_mk1 (shut_bool Try.underlying4 _), (trodAll_cons_mk (Below.trod laidOutK (by kernel_rfl) (of_decide_eq_true (by kernel_rfl)) k0 bel lt0) (trodAll_cons_mk (Below.trod laidOutK (by kernel_rfl) (of_decide_eq_true (by kernel_rfl)) k1 bel lt1) trodAll_mk0)), rfl, bel.frame _, fun h => by cases h⟩

theorem exactKeyLess_holds : Rows.FnExactKeyLessSaid :=
  OpenClaim.holds_of_wide 3 Try.f3 rfl rfl rfl rfl rfl rfl rfl ⟨rfl, rfl, rfl, rfl, rfl⟩ rfl rfl rfl rfl rfl (by kernel_rfl) Try.func3 (by kernel_rfl)
    (of_decide_eq_true (by kernel_rfl)) (by unfold Func.isWrapper; first | (rw [if_pos (by decide +kernel)]; kernel_rfl) | (rw [if_neg (by decide +kernel)]; exact ⟨rfl, rfl⟩))
    (fun os started H enc _ => liftedKeyLess os started H enc)

#print axioms exactKeyLess_holds
end Go.Proofs.Ytgohdlgnmlekdai
