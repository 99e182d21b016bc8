/- For every store and key, the exact law of LastAt returns true and its arguments read afterwards as they read before. -/
import Derived.Test.YtgohdlgnmlekdajLast
import Derived.Test.YtgohdlgnmlekdajLast2
import Derived.Test.YtgohdlgnmlekdajCopy
import Derived.Test.YtgohdlgnmlekdajOpen
import Derived.ChangeOld
namespace Go.Proofs.Ytgohdlgnmlekdaj
open Go.ChangeShapes Go.WideShapes Go.ChangeAt Go.RowKit Go.Sort
set_option linter.unusedVariables false
set_option maxRecDepth 100000
attribute [local go_sem ↓] Go.wp_at_zero Go.wp_at_succ

set_option maxHeartbeats 1000000 in
theorem exactLastAt_any (v : Value) (l : List Ch) (t r : Int) (w : World) {lo hi : Nat} (hl : ChainsAt lo hi w v l) (hw : WfCh l) (wt : wf t) (wr : wf r) :
    Calls Try.prog 3 #[.agg #[v], .agg #[.int .i64 t, .int .i64 r]] w fun e w' => e = .returned (.bool true) ∧ Below w.heap.size w w' := by
  obtain ⟨a, cap, hv⟩ : ∃ a cap, v = .slice a l.length cap := by obtain ⟨a, cap, h1, _⟩ := hl; exact ⟨a, cap, h1⟩
  subst hv
  have b0 : Below w.heap.size w ((w.alloc (Obj.cells #[Value.slice a l.length cap] 24)).alloc (Obj.cells #[.int .i64 t, .int .i64 r] 26)) := ((Below.refl _ _).alloc (Nat.le_refl _) _).alloc (by simp) _
  have S0 : Boxes w a l.length cap t r ((w.alloc (Obj.cells #[Value.slice a l.length cap] 24)).alloc (Obj.cells #[.int .i64 t, .int .i64 r] 26)) := ⟨b0, by simp, by simp [go_sem], by simp [go_sem], by simp [go_sem]⟩
  go_enter Try.func3, Try.ntmps3
  go_wp2_with fail
  refine (szStore_any _ l _ (hl.stays b0) _ (by omega) (by omega)).mono ?_
  rintro e w1 ⟨q, rfl, hq1, hq2, hb1⟩
  have S1 := S0.kept hb1
  clear b0 S0 hb1
  by_cases hneg : q < 0
  · go_wp2
    go_ret
    exact ⟨rfl, S1.1⟩
  have hs := hq2 (by omega)
  have hn := hs.1
  clear hq2
  go_wp2_with fail
  go_region_held3 (fun x => Below w.heap.size w x ∧ w.heap.size + 1 < x.heap.size ∧ x.cell? ⟨w.heap.size, 0, none⟩ = some (.slice a l.length cap) ∧ x.cell? ⟨w.heap.size + 1, 0, none⟩ = some (.int .i64 t) ∧ x.cell? ⟨w.heap.size + 1, 1, none⟩ = some (.int .i64 r))
    (first | assumption | exact S4 | exact S3 | exact S2 | exact S1.kept (Below.refl _ _).drew)
    (first | (go_at_call 11; refine (toStore_any _ l _ (hl.stays S1.1.drew) hs).mono ?_; rintro e w2 ⟨a2, c2, rfl, hv2, hb2⟩; have S2 : Boxes w a l.length cap t r w2 := (S1.kept (Below.refl _ _).drew).kept hb2) | (go_at_call 12; refine (toKey_any _ _ _).mono ?_; rintro e w3 ⟨rfl, hb3⟩; have S3 : Boxes w a l.length cap t r w3 := S2.kept hb3) | (go_at_call 10; refine (specLastAt_any _ l t r _ (hv2.stays hb3)).mono ?_; rintro e w4 ⟨p, rfl, hp, hb4⟩; have S4 : Boxes w a l.length cap t r w4 := S3.kept hb4))
  clear hv2 hb2 hb3 hb4 S1 S2 S3
  go_wp2_with fail
  refine (toStore_any _ l _ (hl.stays S4.1) hs).mono ?_
  rintro e w5 ⟨a5, c5, rfl, hv5, hb5⟩
  have S5 : Boxes4 w a l.length cap t r w5.heap.size a5 c5 (w5.alloc (Obj.cells #[Value.slice a5 l.length c5] 31)) := ⟨(S4.kept hb5).kept (below_alloc _ _), by simp⟩
  have hv5' := hv5.stays (below_alloc w5 (Obj.cells #[Value.slice a5 l.length c5] 31))
  clear S4 hb5 hv5
  go_wp2_with fail
  go_region_held3 (fun x => (Below w.heap.size w x ∧ w.heap.size + 1 < x.heap.size ∧ x.cell? ⟨w.heap.size, 0, none⟩ = some (.slice a l.length cap) ∧ x.cell? ⟨w.heap.size + 1, 0, none⟩ = some (.int .i64 t) ∧ x.cell? ⟨w.heap.size + 1, 1, none⟩ = some (.int .i64 r)) ∧ x.cell? ⟨w5.heap.size, 0, none⟩ = some (.slice a5 l.length c5))
    (first | assumption | exact S7 | exact S6 | exact S5.kept (Below.refl _ _).drew)
    (first | (go_at_call 12; refine (toKey_any _ _ _).mono ?_; rintro e w6 ⟨rfl, hb6⟩; have S6 : Boxes4 w a l.length cap t r w5.heap.size a5 c5 w6 := (S5.kept (Below.refl _ _).drew).kept hb6) | (go_at_call 13; refine (implLastAt_any _ l t r _ (hv5'.stays ((Below.refl _ _).drew.trans hb6)) hw wt wr hn).mono ?_; rintro e w7 ⟨p', rfl, hp', hb7⟩; have S7 : Boxes4 w a l.length cap t r w5.heap.size a5 c5 w7 := S6.kept hb7))
  obtain rfl := hp'.one hp
  have hv7 := (hv5'.stays ((Below.refl _ _).drew.trans hb6)).stays hb7
  clear hp' hp hv5' hb6 S5 S6
  go_wp2_with fail
  go_region_held3 (fun x => (Below w.heap.size w x ∧ w.heap.size + 1 < x.heap.size ∧ x.cell? ⟨w.heap.size, 0, none⟩ = some (.slice a l.length cap) ∧ x.cell? ⟨w.heap.size + 1, 0, none⟩ = some (.int .i64 t) ∧ x.cell? ⟨w.heap.size + 1, 1, none⟩ = some (.int .i64 r)) ∧ x.cell? ⟨w5.heap.size, 0, none⟩ = some (.slice a5 l.length c5))
    (first | assumption | exact S9 | exact S8 | exact S7.kept (Below.refl _ _).drew)
    (first | (go_at_call 11; refine (toStore_any _ l _ (hl.stays S7.1.1.drew) hs).mono ?_; rintro e w8 ⟨a8, c8, rfl, hv8, hb8⟩; have S8 : Boxes4 w a l.length cap t r w5.heap.size a5 c5 w8 := (S7.kept (Below.refl _ _).drew).kept hb8; have hv78 := hv7.stays ((Below.refl _ _).drew.trans hb8)) | (go_at_call 14; refine (eqStore_same _ _ l _ hv78 hv8).mono ?_; rintro e w9 ⟨rfl, hb9⟩; have S9 : Boxes4 w a l.length cap t r w5.heap.size a5 c5 w9 := S8.kept hb9))
  go_wp2
  go_ret
  exact ⟨rfl, S9.1.1⟩

/-! ### The row -/

theorem own : ownKnob Try.prog.godebug = none := by kernel_rfl
theorem laidOut : laidOutB Try.prog = true := by kernel_rfl

set_option maxRecDepth 100000 in
theorem liftedLastAt (os : Os) (started : os.Started) (H : Type) (enc : TypeId × Value → H) :
    ReturnsInHanded {} Try.checked os 3 .any (Rows.fnExactLastAtSpec.pre6 enc Try.prog Try.f3 Rows.fnExactLastAtRow.domain false) (Rows.fnExactLastAtSpec.post enc Try.prog Try.f3 false true false false) := by
  refine returnsInHanded_of_change (C := Try.checked) own started (by kernel_rfl) Try.func3
    (ChangeSpec.witness6 (enc := enc) (C := Try.checked) false ⟨#[], #[.agg #[.slice none 0 0], .agg #[.int .i64 0, .int .i64 0]], []⟩ 8 (by kernel_rfl) (by kernel_rfl) (by kernel_rfl) (by kernel_rfl)) ?_
  intro W base args ds gs before hval0 hW hcnd _
  have hval : ∀ (j : Nat) t v, Try.f3.params[j]? = some t → args[j]? = some v → Value.okWide Try.prog W .any base t v := hval0
  have hW' := hW
  obtain ⟨p, q, hA0, hV, rfl, hfz, hnd⟩ := hW
  have hA : DataW.TrodAll enc Try.prog W 0 (fun _ => true) true Try.f3.params.toList args.toList ds p := hA0
  rw [Try.params3] at hA hval
  obtain ⟨v0, vs0, d0, ds0, p0, q0, hargs, rfl, rfl, h0, r0⟩ := trodAll_cons hA
  obtain ⟨v1, vs1, d1, ds1, p1, q1, rfl, rfl, rfl, h1, r1⟩ := trodAll_cons r0
  obtain ⟨rfl, rfl, rfl⟩ := trodAll_nil r1
  obtain rfl : args = #[v0, v1] := by cases args; simp_all
  obtain ⟨rfl, rfl⟩ := trodVars_none hV
  have k0 := h0
  have lt0 : ∀ x ∈ p0, x.block < W.heap.size := by obtain ⟨m, hm⟩ := k0; exact DataW.trod_lt m _ _ _ hm
  have k1 := h1
  have lt1 : ∀ x ∈ p1, x.block < W.heap.size := by obtain ⟨m, hm⟩ := k1; exact DataW.trod_lt m _ _ _ hm
  obtain ⟨v, l, rfl, hl, hw⟩ := open_store (hval 0 24 v0 rfl rfl) h0
  obtain ⟨t, r, rfl, wt, wr⟩ := open_key (hval 1 26 v1 rfl rfl) h1
  clear hA0 hval0
  refine (exactLastAt_any v l t r W hl hw wt wr).mono fun e W' ⟨he, bel⟩ => ?_
  subst he
  exact ⟨_, rfl, _, _, _, [], _, [], hW', trodAll_mk1 (shut_bool Try.underlying4 _), trodAll_cons_mk (Below.trod laidOut (by kernel_rfl) (of_decide_eq_true (by kernel_rfl)) k0 bel lt0) (trodAll_cons_mk (Below.trod laidOut (by kernel_rfl) (of_decide_eq_true (by kernel_rfl)) k1 bel lt1) trodAll_mk0), rfl, bel.frame _, fun h => by cases h⟩

theorem exactLastAt_holds : Rows.FnExactLastAtSaid :=
  OpenClaim.holds_of_wide 3 Try.f3 rfl rfl rfl rfl rfl rfl rfl ⟨rfl, rfl, rfl, rfl, rfl⟩ rfl rfl rfl rfl rfl (by kernel_rfl) Try.func3 (by kernel_rfl)
    (of_decide_eq_true (by kernel_rfl)) (by unfold Func.isWrapper; first | (rw [if_pos (by decide +kernel)]; kernel_rfl) | (rw [if_neg (by decide +kernel)]; exact ⟨rfl, rfl⟩))
    (fun os started H enc _ => liftedLastAt os started H enc)

#print axioms exactLastAt_holds
end Go.Proofs.Ytgohdlgnmlekdaj
