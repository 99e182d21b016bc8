/- For every state of the whole and every number, the exact law of Lost returns true and the state reads afterwards as it read before. -/
import Derived.Test.YtgnfiakbcogdlakMLost2
import Derived.Test.YtgnfiakbcogdlakMCopy2
import Derived.Test.YtgnfiakbcogdlakMSize
import Derived.Test.YtgnfiakbcogdlakMEq
import Derived.Test.YtgnfiakbcogdlakMOpen
import Derived.ChangeOld
namespace Go.Proofs.Ytgnfiakbcogdlak
open Go.ChangeShapes Go.WideShapes Go.ChangeAt Go.RowKit Go.Sort
set_option linter.unusedVariables false
set_option maxRecDepth 100000
attribute [local go_sem ↓] Go.wp_at_zero Go.wp_at_succ

theorem says_same {p : Prop} {q r : Bool} (h : q = true ↔ p) (h' : r = true ↔ p) : q = r := by
  cases q <;> cases r <;> simp_all

theorem ten_kept {w x y : World} {a1 a2 a3 a4 a5 a6 a7 a8 a9 aa : Addr} {v1 v2 v3 v4 v5 v6 v7 v8 v9 va : Value} (h : Below w.heap.size w x ∧ x.cell? a1 = some v1 ∧ x.cell? a2 = some v2 ∧ x.cell? a3 = some v3 ∧ x.cell? a4 = some v4 ∧ x.cell? a5 = some v5 ∧ x.cell? a6 = some v6 ∧ x.cell? a7 = some v7 ∧ x.cell? a8 = some v8 ∧ x.cell? a9 = some v9 ∧ x.cell? aa = some va) (hb : Below x.heap.size x y) :
    Below w.heap.size w y ∧ y.cell? a1 = some v1 ∧ y.cell? a2 = some v2 ∧ y.cell? a3 = some v3 ∧ y.cell? a4 = some v4 ∧ y.cell? a5 = some v5 ∧ y.cell? a6 = some v6 ∧ y.cell? a7 = some v7 ∧ y.cell? a8 = some v8 ∧ y.cell? a9 = some v9 ∧ y.cell? aa = some va := by
  obtain ⟨h0, h1, h2, h3, h4, h5, h6, h7, h8, h9, ha⟩ := h
  exact ⟨h0.trans (hb.mono h0.size), cell_stays hb h1, cell_stays hb h2, cell_stays hb h3, cell_stays hb h4, cell_stays hb h5, cell_stays hb h6, cell_stays hb h7, cell_stays hb h8, cell_stays hb h9, cell_stays hb ha⟩

set_option maxHeartbeats 1000000 in
theorem exactLost_any (vs vt ve : Value) (m : Md) (tx : Int) (w : World) {lo hi : Nat} (h : MAt lo hi w vs vt ve m) (hw : WfM m) :
    Calls Try.prog 3 #[.agg #[vs, .int .i64 m.c, .int .i64 m.n, vt, ve], .int .i64 tx] w fun e w' => e = .returned (.bool true) ∧ Below w.heap.size w w' := by
  obtain ⟨a1, cap1, hv1⟩ : ∃ a cap, vs = .slice a m.s.length cap := by obtain ⟨a, cap, h1, _⟩ := h.s; exact ⟨a, cap, h1⟩
  obtain ⟨a2, cap2, hv2⟩ : ∃ a cap, vt = .slice a m.x.length cap := by obtain ⟨a, cap, h1, _⟩ := h.x; exact ⟨a, cap, h1⟩
  obtain ⟨a3, cap3, hv3⟩ : ∃ a cap, ve = .slice a m.h.length cap := by obtain ⟨a, cap, h1, _⟩ := h.h; exact ⟨a, cap, h1⟩
  subst hv1 hv2 hv3
  have b0 : Below w.heap.size w (w.alloc (Obj.cells #[Value.slice a1 m.s.length cap1, .int .i64 m.c, .int .i64 m.n, Value.slice a2 m.x.length cap2, Value.slice a3 m.h.length cap3] 28)) := (Below.refl _ _).alloc (Nat.le_refl _) _
  have p0 := MBox.new w (Value.slice a1 m.s.length cap1) m.c m.n (Value.slice a2 m.x.length cap2) (Value.slice a3 m.h.length cap3) 28
  go_enter Try.func3, Try.ntmps3
  go_wp2_with fail
  refine (szMgr_any _ _ _ m _ (h.stays b0) _ (by omega) (by omega)).mono ?_
  rintro e w1 ⟨q, rfl, hq1, hq2, hb1⟩
  have b1 := b0.trans (hb1.mono b0.size)
  have p1 := p0.stays hb1
  clear b0 p0 hb1
  by_cases hneg : q < 0
  · go_wp2
    go_ret
    exact ⟨rfl, b1⟩
  have hs := hq2 (by omega)
  clear hq2
  obtain ⟨r0, r1, r2, r3, r4⟩ := id p1
  go_wp2_with fail
  refine (toMgr_own _ _ _ m _ (h.stays b1) hs).mono ?_
  rintro e w2 ⟨bs2, Bs2, bt2, Bt2, be2, rfl, hv2, hb2⟩
  have b2 := b1.trans (hb2.mono b1.size)
  have p2 := p1.stays hb2
  have hm2 := hv2.at hs m.s.length m.x.length m.h.length
  clear b1 p1 hb2 hv2 r0 r1 r2 r3 r4
  go_wp2_with fail
  refine (specLost_any _ _ _ m tx _ hm2).mono ?_
  rintro e w3 ⟨⟨q3, rfl, hq3⟩, hb3⟩
  have b3 := b2.trans (hb3.mono b2.size)
  have p3 := p2.stays hb3
  have HQ : Hid (q3 = true ↔ isLost m tx) := hq3
  clear b2 p2 hb3 hm2 hq3
  obtain ⟨r0, r1, r2, r3, r4⟩ := id p3
  go_wp2_with fail
  refine (toMgr_own _ _ _ m _ (h.stays b3) hs).mono ?_
  rintro e w4 ⟨bs4, Bs4, bt4, Bt4, be4, rfl, hv4, hb4⟩
  have b4 := b3.trans (hb4.mono b3.size)
  have p4 := p3.stays hb4
  have hm4 := hv4.at hs m.s.length m.x.length m.h.length
  clear b3 p3 hb4 hv4 r0 r1 r2 r3 r4
  go_wp2_with fail
  have hb5 : Below w4.heap.size w4 (w4.alloc (Obj.cells #[Value.slice (some ⟨bs4, 0, none⟩) m.s.length m.s.length, .int .i64 m.c, .int .i64 m.n, Value.slice (some ⟨bt4, 0, none⟩) m.x.length m.x.length, Value.slice (some ⟨be4, 0, none⟩) m.h.length m.h.length] 37)) := (Below.refl _ _).alloc (Nat.le_refl _) _
  have x5 := MBox.new w4 (Value.slice (some ⟨bs4, 0, none⟩) m.s.length m.s.length) m.c m.n (Value.slice (some ⟨bt4, 0, none⟩) m.x.length m.x.length) (Value.slice (some ⟨be4, 0, none⟩) m.h.length m.h.length) 37
  refine (implLost_any _ _ _ m tx _ (hm4.stays hb5) hw).mono ?_
  rintro e w6 ⟨⟨q6, rfl, hq6⟩, hb6⟩
  obtain rfl := says_same hq6 HQ.out
  have hb46 := hb5.trans (hb6.mono hb5.size)
  have b6 := b4.trans (hb46.mono b4.size)
  have hm6 := hm4.stays hb46
  obtain ⟨r0, r1, r2, r3, r4⟩ := p4.stays hb46
  obtain ⟨s0, s1, s2, s3, s4⟩ := x5.stays hb6
  clear b4 p4 hb5 hb6 hq6 hm4 x5 hb46
  go_wp2_with fail
  go_region_held3 (fun x => Below w.heap.size w x ∧ x.cell? ⟨w.heap.size, 0, none⟩ = some (.slice a1 m.s.length cap1) ∧ x.cell? ⟨w.heap.size, 1, none⟩ = some (.int .i64 m.c) ∧ x.cell? ⟨w.heap.size, 2, none⟩ = some (.int .i64 m.n) ∧ x.cell? ⟨w.heap.size, 3, none⟩ = some (.slice a2 m.x.length cap2) ∧ x.cell? ⟨w.heap.size, 4, none⟩ = some (.slice a3 m.h.length cap3) ∧ x.cell? ⟨w4.heap.size, 0, none⟩ = some (.slice (some ⟨bs4, 0, none⟩) m.s.length m.s.length) ∧ x.cell? ⟨w4.heap.size, 1, none⟩ = some (.int .i64 m.c) ∧ x.cell? ⟨w4.heap.size, 2, none⟩ = some (.int .i64 m.n) ∧ x.cell? ⟨w4.heap.size, 3, none⟩ = some (.slice (some ⟨bt4, 0, none⟩) m.x.length m.x.length) ∧ x.cell? ⟨w4.heap.size, 4, none⟩ = some (.slice (some ⟨be4, 0, none⟩) m.h.length m.h.length))
    (first | exact ten_kept (by assumption) hb7 | exact ⟨b6.drew, r0, r1, r2, r3, r4, s0, s1, s2, s3, s4⟩)
    (first | (go_at_call 6; refine (toMgr_own _ _ _ m _ (h.stays b6.drew) hs).mono ?_; rintro e w7 ⟨bs7, Bs7, bt7, Bt7, be7, rfl, hv7, hb7⟩; have hm7 := hv7.at hs m.s.length m.x.length m.h.length; have hm8 := hm6.stays ((Below.refl _ _).drew.trans hb7)) | (go_at_call 8; refine (eqMgr_same _ _ _ _ _ _ m _ hm8 hm7).mono ?_; rintro e w8 ⟨rfl, hb7⟩))
  rename_i hH
  go_wp2
  go_ret
  exact ⟨rfl, hH.1⟩

/-! ### The row -/

theorem own : ownKnob Try.prog.godebug = none := by kernel_rfl
theorem laidOut : laidOutB Try.prog = true := by kernel_rfl

set_option maxRecDepth 100000 in
theorem liftedLost (os : Os) (started : os.Started) (H : Type) (enc : TypeId × Value → H) :
    ReturnsInHanded {} Try.checked os 3 .any (Rows.fnExactLostSpec.pre6 enc Try.prog Try.f3 Rows.fnExactLostRow.domain false) (Rows.fnExactLostSpec.post enc Try.prog Try.f3 false true false false) := by
  refine returnsInHanded_of_change (C := Try.checked) own started (by kernel_rfl) Try.func3
    (ChangeSpec.witness6 (enc := enc) (C := Try.checked) false ⟨#[], #[.agg #[.slice none 0 0, .int .i64 0, .int .i64 0, .slice none 0 0, .slice none 0 0], .int .i64 0], []⟩ 8 (by kernel_rfl) (by kernel_rfl) (by kernel_rfl) (by kernel_rfl)) ?_
  intro W base args ds gs before hval0 hW hcnd _
  have hval : ∀ (j : Nat) t v, Try.f3.params[j]? = some t → args[j]? = some v → Value.okWide Try.prog W .any base t v := hval0
  have hW' := hW
  obtain ⟨p, q, hA0, hV, rfl, hfz, hnd⟩ := hW
  have hA : DataW.TrodAll enc Try.prog W 0 (fun _ => true) true Try.f3.params.toList args.toList ds p := hA0
  rw [Try.params3] at hA hval
  obtain ⟨v0, vs0, d0, ds0, p0, q0, hargs, rfl, rfl, h0, r0⟩ := trodAll_cons hA
  obtain ⟨v1, vs1, d1, ds1, p1, q1, rfl, rfl, rfl, h1, r1⟩ := trodAll_cons r0
  obtain ⟨rfl, rfl, rfl⟩ := trodAll_nil r1
  obtain rfl : args = #[v0, v1] := by cases args; simp_all
  obtain ⟨rfl, rfl⟩ := trodVars_none hV
  have k0 := h0
  have lt0 : ∀ x ∈ p0, x.block < W.heap.size := by obtain ⟨m, hm⟩ := k0; exact DataW.trod_lt m _ _ _ hm
  obtain ⟨vs, vt, ve, m, rfl, hl, hwf⟩ := open_mgr (hval 0 28 v0 rfl rfl) h0
  obtain ⟨tx, rfl, rfl, rfl, wh⟩ := open_int Try.underlying3 (hval 1 3 v1 rfl rfl) h1
  clear hA0 hval0
  refine (exactLost_any vs vt ve m tx W hl hwf).mono fun e W' ⟨he, bel⟩ => ?_
  subst he
  exact ⟨_, rfl, _, _, _, [], _, [], hW', trodAll_mk1 (shut_bool Try.underlying4 _), trodAll_cons_mk (Below.trod laidOut (by kernel_rfl) (of_decide_eq_true (by kernel_rfl)) k0 bel lt0) (trodAll_cons_mk (shut_int Try.underlying3 wh) trodAll_mk0), rfl, bel.frame _, fun h => by cases h⟩

theorem exactLost_holds : Rows.FnExactLostSaid :=
  OpenClaim.holds_of_wide 3 Try.f3 rfl rfl rfl rfl rfl rfl rfl ⟨rfl, rfl, rfl, rfl, rfl⟩ rfl rfl rfl rfl rfl (by kernel_rfl) Try.func3 (by kernel_rfl)
    (of_decide_eq_true (by kernel_rfl)) (by unfold Func.isWrapper; first | (rw [if_pos (by decide +kernel)]; kernel_rfl) | (rw [if_neg (by decide +kernel)]; exact ⟨rfl, rfl⟩))
    (fun os started H enc _ => liftedLost os started H enc)

#print axioms exactLost_holds
end Go.Proofs.Ytgnfiakbcogdlak
