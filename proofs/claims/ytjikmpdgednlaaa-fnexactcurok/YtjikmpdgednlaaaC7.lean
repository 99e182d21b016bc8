/- Runs under way in memory: toCur, szCur, eqCur, the reading of an argument. -/
import Derived.Test.YtjikmpdgednlaaaF0
import Derived.Test.YtjikmpdgednlaaaV0
namespace Go.Proofs.Ytjikmpdgednlaaa
open Go.ChangeShapes Go.WideShapes Go.ChangeAt Go.RowKit Go.Deep Go.Joins
set_option linter.unusedVariables false
set_option maxRecDepth 100000
attribute [local go_sem ↓] Go.wp_at_zero Go.wp_at_succ

theorem toCur_own (pk : Int) (vv fv : Value) (vs : List Va) (fs : List Vr) (w : World) {lo1 hi1 lo2 hi2 : Nat} (hV : VarsAt lo1 hi1 w vv vs) (hF : VersAt lo2 hi2 w fv fs) (hvn : vs.length ≤ 1048576) (hfn : fs.length ≤ 1048576) :
    Calls Try.prog 8 #[.agg #[.int .i64 pk, vv, fv]] w fun e w' => ∃ B F, e = .returned (.agg #[.int .i64 pk, .slice (some ⟨B, 0, none⟩) vs.length vs.length, .slice (some ⟨F, 0, none⟩) fs.length fs.length]) ∧ OwnVa w' B vs ∧ OwnFr w' F fs ∧ w.heap.size ≤ B ∧ B < F ∧ F < w'.heap.size ∧ Below w.heap.size w w' := by
  obtain ⟨va, vc, hv⟩ : ∃ a cap, vv = .slice a vs.length cap := by obtain ⟨a, cap, h1, _⟩ := hV; exact ⟨a, cap, h1⟩
  obtain ⟨fa, fc, hf⟩ : ∃ a cap, fv = .slice a fs.length cap := by obtain ⟨a, cap, h1, _⟩ := hF; exact ⟨a, cap, h1⟩
  subst hv hf
  go_enter Try.func8, Try.ntmps8
  go_wp2_with fail
  refine Calls.mono (toVarS_own _ vs _ (hV.stays ?hbx) hvn) ?_
  case hbx => go_grown
  rintro e w2 ⟨rfl, ho2, hb2⟩
  obtain ⟨hc2, hf2⟩ := bcell hb2
  have hz2 : w.heap.size + 3 < w2.heap.size := by have := ho2.lt; simpa using this
  have hz2a : w.heap.size + 1 + 1 < w2.heap.size := by omega
  have hz2c : w.heap.size + 1 < w2.heap.size := by omega
  have hz2b : w.heap.size < w2.heap.size := by omega
  have b2 : Below w.heap.size w w2 := Below.trans (by go_grown) (hb2.mono (by simp; omega))
  replace ho2 : OwnVa w2 (w.heap.size + 3) vs := by simpa using ho2
  go_wp2_with fail
  have b3 : Below w.heap.size w (w2.setCell ⟨w.heap.size + 1 + 1, 1, none⟩ (.slice (some ⟨w.heap.size + 1 + 1 + 1, 0, none⟩) vs.length vs.length)) := b2.setCell (by simp; omega) _
  have ho3 : OwnVa (w2.setCell ⟨w.heap.size + 1 + 1, 1, none⟩ (.slice (some ⟨w.heap.size + 1 + 1 + 1, 0, none⟩) vs.length vs.length)) (w.heap.size + 3) vs := ho2.keep (Below.heap_setCell _ _ _ _ (by simp))
  refine Calls.mono (toFrameS_own _ fs _ (hF.stays b3) hfn) ?_
  rintro e w4 ⟨rfl, ho4, hb4⟩
  obtain ⟨hc4, hf4⟩ := bcell hb4
  have hz4 : w2.heap.size < w4.heap.size := by have := ho4.lt; simpa using this
  have hz4a : w.heap.size + 1 + 1 < w4.heap.size := by omega
  have ho5 := ho3.stays hb4
  have b4 := b3.trans (hb4.mono b3.size)
  replace ho4 : OwnFr w4 w2.heap.size fs := by simpa using ho4
  clear ho2 ho3 hb4 hb2
  go_wp2
  refine bodyPost_ret (v := .agg #[.int .i64 pk, .slice (some ⟨w.heap.size + 3, 0, none⟩) vs.length vs.length, .slice (some ⟨w2.heap.size, 0, none⟩) fs.length fs.length]) (by simp [results, Try.results8, go_sem, hc4, hc2, hz2c]) rfl ⟨_, _, rfl, ?_, ?_, by omega, hz2, ?_, ?_⟩
  · refine ho5.keep ?_
    repeat rw [Below.heap_setCell _ _ _ _ (by simp)]
  · obtain ⟨f, h1, h2⟩ := ho4
    refine ⟨f, h1.of_block ?_, h2⟩
    repeat rw [Below.heap_setCell _ _ _ _ (by simp; omega)]
  · simp only [size_setCell]; exact hz4
  · go_grown

/-- The two slices of a run. -/
def CurAt (lo hi : Nat) (w : World) (vv fv : Value) (vs : List Va) (fs : List Vr) : Prop := VarsAt lo hi w vv vs ∧ VersAt lo hi w fv fs
theorem CurAt.stays {lo hi : Nat} {w w' : World} {vv fv : Value} {vs : List Va} {fs : List Vr} (h : CurAt lo hi w vv fv vs fs) (hb : Below w.heap.size w w') : CurAt lo hi w' vv fv vs fs := ⟨h.1.stays hb, h.2.stays hb⟩
theorem VarsAt.wide {lo hi lo' hi' : Nat} {w : World} {v : Value} {l : List Va} (h : VarsAt lo hi w v l) (hl : lo' ≤ lo) (hh : hi ≤ hi') : VarsAt lo' hi' w v l := by
  obtain ⟨a, cap, h1, h2, h3⟩ := h
  refine ⟨a, cap, h1, h2, fun hp => ?_⟩
  obtain ⟨b, off, ha, hl', hh', hc⟩ := h3 hp
  exact ⟨b, off, ha, by omega, by omega, hc⟩
theorem toCur_at (pk : Int) (vv fv : Value) (vs : List Va) (fs : List Vr) (w : World) {lo1 hi1 lo2 hi2 : Nat} (hV : VarsAt lo1 hi1 w vv vs) (hF : VersAt lo2 hi2 w fv fs) (hvn : vs.length ≤ 1048576) (hfn : fs.length ≤ 1048576) :
    Calls Try.prog 8 #[.agg #[.int .i64 pk, vv, fv]] w fun e w' => ∃ va vc fa fc, e = .returned (.agg #[.int .i64 pk, .slice va vs.length vc, .slice fa fs.length fc]) ∧ CurAt w.heap.size w'.heap.size w' (.slice va vs.length vc) (.slice fa fs.length fc) vs fs ∧ Below w.heap.size w w' := by
  refine Calls.mono (toCur_own pk vv fv vs fs w hV hF hvn hfn) ?_
  rintro e w' ⟨B, F, rfl, h1, h2, hB, hBF, hFw, hb⟩
  exact ⟨_, _, _, _, rfl, ⟨(h1.at hvn _).wide hB (by omega), (h2.at hfn _).wide (by omega) (by omega)⟩, hb⟩
theorem szCur_any (pk : Int) (vv fv : Value) (vs : List Va) (fs : List Vr) (w : World) {lo1 hi1 lo2 hi2 : Nat} (hV : VarsAt lo1 hi1 w vv vs) (hF : VersAt lo2 hi2 w fv fs) (hw : WfVa vs) (left : Int) (h0 : 0 ≤ left) (h1 : left ≤ 1048576) :
    Calls Try.prog 5 #[.agg #[.int .i64 pk, vv, fv], .int .i64 left] w fun e w' => ∃ q, e = .returned (.int .i64 q) ∧ q ≤ left ∧ (0 ≤ q → SmallV vs ∧ fs.length ≤ 1048576) ∧ Below w.heap.size w w' := by
  obtain ⟨va, vc, hv⟩ : ∃ a cap, vv = .slice a vs.length cap := by obtain ⟨a, cap, h1, _⟩ := hV; exact ⟨a, cap, h1⟩
  obtain ⟨fa, fc, hf⟩ : ∃ a cap, fv = .slice a fs.length cap := by obtain ⟨a, cap, h1, _⟩ := hF; exact ⟨a, cap, h1⟩
  subst hv hf
  have hbx : Below w.heap.size w (w.alloc (Obj.cells #[.int .i64 pk, Value.slice va vs.length vc, Value.slice fa fs.length fc] 29)) := (Below.refl _ _).alloc (Nat.le_refl _) _
  go_enter Try.func5, Try.ntmps5
  go_wp2_with fail
  refine (szVarS_any _ vs _ (hV.stays hbx) hw _ h0 h1).mono ?_
  rintro e w2 ⟨q, rfl, hq, hl, hb2⟩
  have hb3 := hbx.trans (hb2.mono (by simp))
  have p1 : w2.cell? ⟨w.heap.size, 2, none⟩ = some (.slice fa fs.length fc) := cell_stays hb2 (by simp [go_sem])
  by_cases hlt : q < 0
  · go_wp2
    go_ret
    exact ⟨_, rfl, by omega, by omega, hb3⟩
  have hl' := hl (by omega)
  clear hl
  change Hid _ at hl'
  go_wp2_with fail
  refine (szFrameS_any _ fs _ (hF.stays hb3) _ (by omega) (by omega)).mono ?_
  rintro e w4 ⟨q4, rfl, hq4, hl4, rfl⟩
  change Hid _ at hl4
  by_cases hlt4 : q4 < 0
  · go_wp2
    go_ret
    exact ⟨_, rfl, by omega, by omega, hb3⟩
  · go_wp2
    go_ret
    exact ⟨_, rfl, by omega, fun _ => ⟨hl'.out, hl4.out (by omega)⟩, hb3⟩

theorem eqCur_same (pk : Int) (vv fv vv' fv' : Value) (vs : List Va) (fs : List Vr) (w : World) {lo1 hi1 lo2 hi2 lo3 hi3 lo4 hi4 : Nat} (hV : VarsAt lo1 hi1 w vv vs) (hF : VersAt lo2 hi2 w fv fs) (hV' : VarsAt lo3 hi3 w vv' vs) (hF' : VersAt lo4 hi4 w fv' fs) :
    Calls Try.prog 11 #[.agg #[.int .i64 pk, vv, fv], .agg #[.int .i64 pk, vv', fv']] w fun e w' => e = .returned (.bool true) ∧ Below w.heap.size w w' := by
  obtain ⟨va, vc, hv⟩ : ∃ a cap, vv = .slice a vs.length cap := by obtain ⟨a, cap, h1, _⟩ := hV; exact ⟨a, cap, h1⟩
  obtain ⟨fa, fc, hf⟩ : ∃ a cap, fv = .slice a fs.length cap := by obtain ⟨a, cap, h1, _⟩ := hF; exact ⟨a, cap, h1⟩
  obtain ⟨va', vc', hv'⟩ : ∃ a cap, vv' = .slice a vs.length cap := by obtain ⟨a, cap, h1, _⟩ := hV'; exact ⟨a, cap, h1⟩
  obtain ⟨fa', fc', hf'⟩ : ∃ a cap, fv' = .slice a fs.length cap := by obtain ⟨a, cap, h1, _⟩ := hF'; exact ⟨a, cap, h1⟩
  subst hv hf hv' hf'
  have hbx : Below w.heap.size w ((w.alloc (Obj.cells #[.int .i64 pk, Value.slice va vs.length vc, Value.slice fa fs.length fc] 41)).alloc (Obj.cells #[.int .i64 pk, Value.slice va' vs.length vc', Value.slice fa' fs.length fc'] 41)) := ((Below.refl _ _).alloc (Nat.le_refl _) _).alloc (by simp) _
  go_enter Try.func11, Try.ntmps11
  go_wp2_with fail
  refine (eqVarS_same _ _ vs _ (hV.stays hbx) (hV'.stays hbx)).mono ?_
  rintro e w2 ⟨rfl, hb2⟩
  have p1 : w2.cell? ⟨w.heap.size, 2, none⟩ = some (.slice fa fs.length fc) := cell_stays hb2 (by simp [go_sem])
  have p2 : w2.cell? ⟨w.heap.size + 1, 2, none⟩ = some (.slice fa' fs.length fc') := cell_stays hb2 (by simp [go_sem])
  have hb3 := hbx.trans (hb2.mono hbx.size)
  go_wp2_with fail
  refine (eqFrameS_same _ _ fs _ (hF.stays hb3) (hF'.stays hb3)).mono ?_
  rintro e w4 ⟨rfl, hb4⟩
  go_wp2
  go_ret
  exact ⟨rfl, hb3.trans (hb4.mono hb3.size)⟩

theorem eqCur_at (pk : Int) (vv fv vv' fv' : Value) (vs : List Va) (fs : List Vr) (w : World) {lo hi lo' hi' : Nat} (h : CurAt lo hi w vv fv vs fs) (h' : CurAt lo' hi' w vv' fv' vs fs) :
    Calls Try.prog 11 #[.agg #[.int .i64 pk, vv, fv], .agg #[.int .i64 pk, vv', fv']] w fun e w' => e = .returned (.bool true) ∧ Below w.heap.size w w' := eqCur_same pk vv fv vv' fv' vs fs w h.1 h.2 h'.1 h'.2

section
variable {H : Type} {enc : TypeId × Value → H} {W : World}
theorem open_cur {r : Reach} {b0 : Nat} {v0 : Value} {d : DataW H} {p : List MemPlace} (hv : Value.okWide Try.prog W r b0 29 v0) (h : DataW.Trod enc Try.prog W 0 (fun _ => true) true 29 v0 d p) :
    ∃ pk vv fv vs fs, v0 = .agg #[.int .i64 pk, vv, fv] ∧ VarsAt 0 W.heap.size W vv vs ∧ VersAt 0 W.heap.size W fv fs ∧ WfVa vs ∧ WfFr fs ∧ wf pk := by
  obtain ⟨cs, rfl, hsz⟩ := okWide_struct Try.underlying29 hv
  have hc : Try.prog.cellsOf 29 = 3 := by kernel_rfl
  have hci : Try.prog.cellsOf 3 = 1 := by kernel_rfl
  have hcv : Try.prog.cellsOf 26 = 1 := by kernel_rfl
  have hcf : Try.prog.cellsOf 27 = 1 := by kernel_rfl
  rw [hc] at hsz
  obtain ⟨fuel, hf⟩ := h
  obtain ⟨y0, y1, y2, n, _, _, h0, h1, h2⟩ := trod_struct3 Try.underlying29 hf
  obtain ⟨c, e, g, rfl⟩ : ∃ c e g, cs = #[c, e, g] := by
    match cs, hsz with
    | ⟨[c, e, g]⟩, _ => exact ⟨c, e, g, rfl⟩
  simp only [hci, hcv, hcf] at h0 h1 h2
  obtain ⟨n0, e0, _, w0⟩ := DataW.trod_int Try.underlying3 h0
  obtain ⟨va, vn, vc, vs, e1, hvn, hV, hwV⟩ := open_vars h1
  obtain ⟨fa, fn, fc, fs, e2, hfn, hF, hwF⟩ := open_frames h2
  simp [Value.cells] at e0 e1 e2
  exact ⟨n0, _, _, vs, fs, by rw [e0, e1, e2], hV, hF, hwV, hwF, w0⟩
end
end Go.Proofs.Ytjikmpdgednlaaa
