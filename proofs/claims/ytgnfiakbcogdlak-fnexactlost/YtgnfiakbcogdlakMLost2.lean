/- Both Lost functions. -/
import Derived.Test.YtgnfiakbcogdlakMLost
namespace Go.Proofs.Ytgnfiakbcogdlak
open Go.ChangeShapes Go.WideShapes Go.ChangeAt Go.RowKit Go.Sort
set_option linter.unusedVariables false
set_option maxRecDepth 100000
attribute [local go_sem ↓] Go.wp_at_zero Go.wp_at_succ

/-- The transaction has been outrun. -/
def isLost (m : Md) (tx : Int) : Prop := mgrOk m ∧ ∃ i, IsTx m tx i ∧ lostP m.s (tAt m.x i).w (tAt m.x i).s

theorem specMgrOk_yes (vs vt ve : Value) (m : Md) (w : World) {lo hi : Nat} (h : MAt lo hi w vs vt ve m) (ho : mgrOk m) : Calls Try.prog 12 #[.agg #[vs, .int .i64 m.c, .int .i64 m.n, vt, ve]] w fun e w' => e = .returned (.bool true) ∧ Below w.heap.size w w' := by
  refine (specMgrOk_any vs vt ve m w h).mono ?_
  rintro e w' ⟨⟨q, rfl, hq⟩, hb⟩
  obtain rfl := hq.2 ho
  exact ⟨rfl, hb⟩
theorem specMgrOk_no (vs vt ve : Value) (m : Md) (w : World) {lo hi : Nat} (h : MAt lo hi w vs vt ve m) (ho : ¬ mgrOk m) : Calls Try.prog 12 #[.agg #[vs, .int .i64 m.c, .int .i64 m.n, vt, ve]] w fun e w' => e = .returned (.bool false) ∧ Below w.heap.size w w' := by
  refine (specMgrOk_any vs vt ve m w h).mono ?_
  rintro e w' ⟨⟨q, rfl, hq⟩, hb⟩
  obtain rfl := says_false hq ho
  exact ⟨rfl, hb⟩
theorem l2tx_is (b : Nat) (vs vt ve : Value) (m : Md) (tx : Int) (i : Nat) (w : World) {lo hi : Nat} (hbox : MBox w b vs m.c m.n vt ve) (h : TxsAt lo hi w vt m.x) (hi' : IsTx m tx i) :
    Calls Try.prog 13 #[.pointer (some ⟨b, 0, none⟩), .int .i64 tx] w fun e w' => e = .returned (.int .i64 i) ∧ w' = w := by
  refine (l2tx_any b vs vt ve m tx w hbox h).mono ?_
  rintro e w' ⟨⟨x, rfl, hx⟩, rfl⟩
  rcases hx with ⟨_, hn⟩ | ⟨j, rfl, hj⟩
  · exact absurd hi'.2.1 (hn i hi'.1)
  · obtain rfl := hi'.one hj
    exact ⟨rfl, rfl⟩
theorem l2tx_no (b : Nat) (vs vt ve : Value) (m : Md) (tx : Int) (w : World) {lo hi : Nat} (hbox : MBox w b vs m.c m.n vt ve) (h : TxsAt lo hi w vt m.x) (hn : NoTx m tx) :
    Calls Try.prog 13 #[.pointer (some ⟨b, 0, none⟩), .int .i64 tx] w fun e w' => e = .returned (.int .i64 (-1)) ∧ w' = w := by
  refine (l2tx_any b vs vt ve m tx w hbox h).mono ?_
  rintro e w' ⟨⟨x, rfl, hx⟩, rfl⟩
  rcases hx with ⟨rfl, _⟩ | ⟨j, rfl, hj⟩
  · exact ⟨rfl, rfl⟩
  · exact absurd hj.2.1 (hn j hj.1)

set_option maxHeartbeats 1000000 in
theorem specLost_any (vs vt ve : Value) (m : Md) (tx : Int) (w : World) {lo hi : Nat} (h : MAt lo hi w vs vt ve m) :
    Calls Try.prog 5 #[.agg #[vs, .int .i64 m.c, .int .i64 m.n, vt, ve], .int .i64 tx] w fun e w' => Says e (isLost m tx) ∧ Below w.heap.size w w' := by
  obtain ⟨a1, cap1, hv1⟩ : ∃ a cap, vs = .slice a m.s.length cap := by obtain ⟨a, cap, h1, _⟩ := h.s; exact ⟨a, cap, h1⟩
  obtain ⟨a2, cap2, hv2⟩ : ∃ a cap, vt = .slice a m.x.length cap := by obtain ⟨a, cap, h1, _⟩ := h.x; exact ⟨a, cap, h1⟩
  obtain ⟨a3, cap3, hv3⟩ : ∃ a cap, ve = .slice a m.h.length cap := by obtain ⟨a, cap, h1, _⟩ := h.h; exact ⟨a, cap, h1⟩
  subst hv1 hv2 hv3
  have hbx : Below w.heap.size w (w.alloc (Obj.cells #[Value.slice a1 m.s.length cap1, .int .i64 m.c, .int .i64 m.n, Value.slice a2 m.x.length cap2, Value.slice a3 m.h.length cap3] 37)) := (Below.refl _ _).alloc (Nat.le_refl _) _
  have hB := MBox.new w (Value.slice a1 m.s.length cap1) m.c m.n (Value.slice a2 m.x.length cap2) (Value.slice a3 m.h.length cap3) 37
  have hM := h.stays hbx
  go_enter Try.func5, Try.ntmps5
  by_cases ho : mgrOk m
  · rcases tx_either m tx with hn | ⟨i, hi'⟩
    · go_wp2_with (first | (go_at_call 12; refine (specMgrOk_yes _ _ _ m _ hM ho).mono ?_; rintro e w1 ⟨rfl, hb1⟩; have hB1 := hB.stays hb1; have hM1 := hM.stays hb1) | (go_at_call 13; refine (l2tx_no _ _ _ _ m tx _ hB1 hM1.x hn).mono ?_; rintro e w2 ⟨rfl, rfl⟩))
      go_ret
      exact ⟨says_no fun ⟨_, i, hi', _⟩ => hn i hi'.1 hi'.2.1, hbx.trans (hb1.mono hbx.size)⟩
    · have hi0 : ¬ ((i : Int) < 0) := by omega
      go_wp2_with (first | (go_at_call 12; refine (specMgrOk_yes _ _ _ m _ hM ho).mono ?_; rintro e w1 ⟨rfl, hb1⟩; have hB1 := hB.stays hb1; have hM1 := hM.stays hb1) | (go_at_call 13; refine (l2tx_is _ _ _ _ m tx i _ hB1 hM1.x hi').mono ?_; rintro e w2 ⟨rfl, rfl⟩))
      refine (l2lost_any _ _ _ _ _ m i _ hB1 hM1.s hM1.x ho.1 hi'.1 (ho.2.2.2.2.2.2.2 i hi'.1).2.2.2.2.2.1).mono ?_
      rintro e w3 ⟨⟨q, rfl, hq⟩, hb3⟩
      have hb13 := hb1.trans (hb3.mono hb1.size)
      have HQ : Hid (q = true ↔ lostP m.s (tAt m.x i).w (tAt m.x i).s) := hq
      clear hq
      go_wp2
      go_ret
      refine ⟨⟨q, rfl, fun h => ⟨ho, i, hi', HQ.out.1 h⟩, fun ⟨_, j, hj, hl⟩ => ?_⟩, hbx.trans (hb13.mono hbx.size)⟩
      obtain rfl := hi'.one hj
      exact HQ.out.2 hl
  · go_wp2_with (first | (go_at_call 12; refine (specMgrOk_no _ _ _ m _ hM ho).mono ?_; rintro e w1 ⟨rfl, hb1⟩))
    go_ret
    exact ⟨says_no fun h => ho h.1, hbx.trans (hb1.mono hbx.size)⟩

theorem outrun_yes (v : Value) (l : List Ch) (ii ss : Int) (vw : Value) (r : List Rw) (w : World) {lo hi : Nat} (hS : ChainsAt lo hi w v l) (h : RowsAt lo hi w vw r) (ho : storeOk l) (hr : rowsOk r) (hw : WfCh l) (hwr : WfRw r) (hl : lostP l r ss) :
    Calls Try.prog 19 #[.agg #[v], .agg #[.int .i64 ii, .int .i64 ss, vw]] w fun e w' => e = .returned (.bool true) ∧ Below w.heap.size w w' := by
  refine (outrun_any v l ii ss vw r w hS h ho hr hw hwr).mono ?_
  rintro e w' ⟨⟨q, rfl, hq⟩, hb⟩
  obtain rfl := hq.2 hl
  exact ⟨rfl, hb⟩
theorem outrun_no (v : Value) (l : List Ch) (ii ss : Int) (vw : Value) (r : List Rw) (w : World) {lo hi : Nat} (hS : ChainsAt lo hi w v l) (h : RowsAt lo hi w vw r) (ho : storeOk l) (hr : rowsOk r) (hw : WfCh l) (hwr : WfRw r) (hl : ¬ lostP l r ss) :
    Calls Try.prog 19 #[.agg #[v], .agg #[.int .i64 ii, .int .i64 ss, vw]] w fun e w' => e = .returned (.bool false) ∧ Below w.heap.size w w' := by
  refine (outrun_any v l ii ss vw r w hS h ho hr hw hwr).mono ?_
  rintro e w' ⟨⟨q, rfl, hq⟩, hb⟩
  obtain rfl := says_false hq hl
  exact ⟨rfl, hb⟩

set_option maxHeartbeats 1000000 in
theorem implLost_any (vs vt ve : Value) (m : Md) (tx : Int) (w : World) {lo hi : Nat} (h : MAt lo hi w vs vt ve m) (hw : WfM m) :
    Calls Try.prog 7 #[.agg #[vs, .int .i64 m.c, .int .i64 m.n, vt, ve], .int .i64 tx] w fun e w' => Says e (isLost m tx) ∧ Below w.heap.size w w' := by
  obtain ⟨a1, cap1, hv1⟩ : ∃ a cap, vs = .slice a m.s.length cap := by obtain ⟨a, cap, h1, _⟩ := h.s; exact ⟨a, cap, h1⟩
  obtain ⟨a2, cap2, hv2⟩ : ∃ a cap, vt = .slice a m.x.length cap := by obtain ⟨a, cap, h1, _⟩ := h.x; exact ⟨a, cap, h1⟩
  obtain ⟨a3, cap3, hv3⟩ : ∃ a cap, ve = .slice a m.h.length cap := by obtain ⟨a, cap, h1, _⟩ := h.h; exact ⟨a, cap, h1⟩
  subst hv1 hv2 hv3
  have hbx : Below w.heap.size w (w.alloc (Obj.cells #[Value.slice a1 m.s.length cap1, .int .i64 m.c, .int .i64 m.n, Value.slice a2 m.x.length cap2, Value.slice a3 m.h.length cap3] 37)) := (Below.refl _ _).alloc (Nat.le_refl _) _
  have hB := MBox.new w (Value.slice a1 m.s.length cap1) m.c m.n (Value.slice a2 m.x.length cap2) (Value.slice a3 m.h.length cap3) 37
  have hM := h.stays hbx
  go_enter Try.func7, Try.ntmps7
  go_wp2_with fail
  refine (underWay_any _ _ _ _ _ m tx _ hB hM).mono ?_
  rintro e w1 ⟨hu, hb1⟩
  have hB1 := hB.stays hb1
  have hM1 := hM.stays hb1
  have b1 := hbx.trans (hb1.mono hbx.size)
  clear hB hM hb1
  rcases hu with ⟨ho, i, bt, off, hi', rfl, rfl⟩ | ⟨hno, rfl⟩
  · obtain ⟨a', cap', e', hm, hc⟩ := id hM1.x
    injection e' with e1 e2 e3
    subst e1 e3
    obtain ⟨bt', off', e4, _, _, hcc⟩ := hc (by have := hi'.1; omega)
    injection e4 with e4
    injection e4 with e5 e6
    subst e5 e6
    obtain ⟨c0, c1, ca, cb, c2, c3⟩ := hcc i hi'.1
    have k0 := cell_regrown hB1.s
    have k1 := cell_regrown c0
    have k2 := cell_regrown c1
    have k3 := cell_regrown c2
    have hr := (ho.2.2.2.2.2.2.2 i hi'.1).2.2.2.2.2
    have hwr := hw.2 i hi'.1
    clear hcc hc e2
    by_cases hl : lostP m.s (tAt m.x i).w (tAt m.x i).s
    · go_wp2_with fail
      refine wp_region_quiet_below (by kernel_rfl) (by kernel_rfl) ?_
      repeat (go_big_quiet_step ((go_at_call 19; exact Calls.regrown_of (outrun_yes _ m.s _ _ _ (tAt m.x i).w _ (hM1.s.stays (below_regrown _ _ _)) (c3.stays (below_regrown _ _ _)) ho.1 hr hw.1 hwr hl))))
      refine wpQuiet_nil ?_
      intro w5 hw5
      obtain ⟨⟨dq, osq⟩, hw6⟩ := hw5
      have hb5 : Below _ _ w5 := hw6 ▸ below_regrown _ dq osq
      clear hw6
      go_wp2
      go_ret
      exact ⟨says_yes ⟨ho, i, hi', hl⟩, b1.trans (hb5.mono b1.size)⟩
    · go_wp2_with fail
      refine wp_region_quiet_below (by kernel_rfl) (by kernel_rfl) ?_
      repeat (go_big_quiet_step ((go_at_call 19; exact Calls.regrown_of (outrun_no _ m.s _ _ _ (tAt m.x i).w _ (hM1.s.stays (below_regrown _ _ _)) (c3.stays (below_regrown _ _ _)) ho.1 hr hw.1 hwr hl))))
      refine wpQuiet_nil ?_
      intro w5 hw5
      obtain ⟨⟨dq, osq⟩, hw6⟩ := hw5
      have hb5 : Below _ _ w5 := hw6 ▸ below_regrown _ dq osq
      clear hw6
      go_wp2
      go_ret
      refine ⟨says_no fun ⟨_, j, hj, hl'⟩ => hl ?_, b1.trans (hb5.mono b1.size)⟩
      obtain rfl := hi'.one hj
      exact hl'
  · have hnl : ¬ isLost m tx := fun ⟨ho, j, hj, _⟩ => by
      rcases hno with h | h
      · exact h ho
      · exact h j hj.1 hj.2.1
    clear hno
    go_wp2_with fail
    refine wp_region_quiet_below (by kernel_rfl) (by kernel_rfl) ?_
    repeat (go_big_quiet_step (fail))
    refine wpQuiet_nil ?_
    intro w5 hw5
    obtain ⟨⟨dq, osq⟩, hw6⟩ := hw5
    have hb5 : Below _ _ w5 := hw6 ▸ below_regrown _ dq osq
    clear hw6
    go_wp2
    go_ret
    exact ⟨says_no hnl, b1.trans (hb5.mono b1.size)⟩

end Go.Proofs.Ytgnfiakbcogdlak
