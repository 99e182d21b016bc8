import Derived.Test.YtmecbppblbmchaaGreatDoorT2
import Derived.Test.YtmecbppblbmchaaGreatDoorM4
import Derived.Test.YtmecbppblbmchaaGreatDoorRead
/- The program's TxRead. -/
namespace Go.Proofs.YtmecbppblbmchaaGreatDoor
open Go.ChangeShapes Go.WideShapes Go.ChangeAt Go.RowKit Go.Sort
set_option linter.unusedVariables false
set_option maxRecDepth 100000
attribute [local go_sem ↓] Go.wp_at_zero Go.wp_at_succ

/-- What TxRead comes to. -/
def RR (m x : Md) (tx t r val code : Int) : Prop :=
  (mgrOk m ∧ tabB t = true ∧ m.h.length ≤ 2998 ∧ ∃ i p, IsTx m tx i ∧ RdIs m t r i p ∧ x = rdM m tx t r p ∧ val = p.1 ∧ code = 0) ∨
  ((¬ mgrOk m ∨ NoTx m tx ∨ ¬ tabB t = true) ∧ x = md0 ∧ val = 0 ∧ code = 1) ∨
  (mgrOk m ∧ (∃ i, IsTx m tx i) ∧ tabB t = true ∧ ¬ m.h.length ≤ 2998 ∧ x = md0 ∧ val = 0 ∧ code = 2)
theorem RdIs.one {m : Md} {t r : Int} {i : Nat} {p p' : Int × Int} (hu : RowsUp (tAt m.x i).w) (h : RdIs m t r i p) (h' : RdIs m t r i p') : p = p' := by
  rcases h with ⟨j, hj, rfl⟩ | ⟨hno, rfl⟩ <;> rcases h' with ⟨j', hj', rfl⟩ | ⟨hno', rfl⟩
  · have e := (LowK.at (lowP_low hu t r) hu hj).trans (LowK.at (lowP_low hu t r) hu hj').symm
    rw [e]
  · exact absurd hj (hno' j)
  · exact absurd hj' (hno j')
  · rfl
theorem noTx_isTx {m : Md} {tx : Int} {i : Nat} (h : NoTx m tx) (hi : IsTx m tx i) : False := h i hi.1 hi.2.1
theorem RR.one {m x x' : Md} {tx t r val val' code code' : Int} (h : RR m x tx t r val code) (h' : RR m x' tx t r val' code') : x = x' ∧ val = val' ∧ code = code' := by
  rcases h with ⟨a, b, c, i, p, hi, hp, rfl, rfl, rfl⟩ | ⟨a, rfl, rfl, rfl⟩ | ⟨a, ⟨i, hi⟩, b, c, rfl, rfl, rfl⟩ <;> rcases h' with ⟨a', b', c', i', p', hi', hp', rfl, rfl, rfl⟩ | ⟨a', rfl, rfl, rfl⟩ | ⟨a', ⟨i', hi'⟩, b', c', rfl, rfl, rfl⟩
  · obtain rfl := hi.one hi'
    rw [RdIs.one (mgr_up a hi.1) hp hp']
    exact ⟨rfl, rfl, rfl⟩
  · rcases a' with h | h | h
    · exact absurd a h
    · exact (noTx_isTx h hi).elim
    · exact absurd b h
  · exact absurd c c'
  · rcases a with h | h | h
    · exact absurd a' h
    · exact (noTx_isTx h hi').elim
    · exact absurd b' h
  · exact ⟨rfl, rfl, rfl⟩
  · rcases a with h | h | h
    · exact absurd a' h
    · exact (noTx_isTx h hi').elim
    · exact absurd b' h
  · exact absurd c' c
  · rcases a' with h | h | h
    · exact absurd a h
    · exact (noTx_isTx h hi).elim
    · exact absurd b h
  · exact ⟨rfl, rfl, rfl⟩

set_option maxHeartbeats 4000000 in
theorem implTxRead_any (vs vt ve : Value) (m : Md) (tx t r : Int) (w : World) {lo hi : Nat} (h : MAt lo hi w vs vt ve m) (hn : SmallM m) (hwf : WfCh m.s) (wt : wf t) (wr : wf r) (hL : Laid w) :
    Calls Tryz.prog 17 #[.agg #[vs, .int .i64 m.c, .int .i64 m.n, vt, ve], .int .i64 tx, .agg #[.int .i64 t, .int .i64 r]] w fun e w' => ∃ v x val code, e = .returned (.tuple #[v, .int .i64 val, .int .i64 code]) ∧ AnsM w.heap.size w' v x ∧ RR m x tx t r val code ∧ Below w.heap.size w w' := by
  obtain ⟨a1, cap1, hv1⟩ : ∃ a cap, vs = .slice a m.s.length cap := by obtain ⟨a, cap, h1, _⟩ := h.s; exact ⟨a, cap, h1⟩
  obtain ⟨a2, cap2, hv2⟩ : ∃ a cap, vt = .slice a m.x.length cap := by obtain ⟨a, cap, h1, _⟩ := h.x; exact ⟨a, cap, h1⟩
  obtain ⟨a3, cap3, hv3⟩ : ∃ a cap, ve = .slice a m.h.length cap := by obtain ⟨a, cap, h1, _⟩ := h.h; exact ⟨a, cap, h1⟩
  subst hv1 hv2 hv3
  have b0 : Below w.heap.size w (((w.alloc (Obj.cells #[Value.slice a1 m.s.length cap1, .int .i64 m.c, .int .i64 m.n, Value.slice a2 m.x.length cap2, Value.slice a3 m.h.length cap3] 36)).alloc (Obj.cells #[Value.int IntKind.i64 t, Value.int IntKind.i64 r] 46)).alloc (Obj.cells #[Value.slice none 0 0, .int .i64 0, .int .i64 0, Value.slice none 0 0, Value.slice none 0 0] 36)) := (((Below.refl _ _).alloc (Nat.le_refl _) _).alloc (by simp) _).alloc (by simp; omega) _
  have r0 := zeroBox (w.alloc (Obj.cells #[Value.slice a1 m.s.length cap1, .int .i64 m.c, .int .i64 m.n, Value.slice a2 m.x.length cap2, Value.slice a3 m.h.length cap3] 36)) (Obj.cells #[Value.int IntKind.i64 t, Value.int IntKind.i64 r] 46)
  rw [show (w.alloc (Obj.cells #[Value.slice a1 m.s.length cap1, .int .i64 m.c, .int .i64 m.n, Value.slice a2 m.x.length cap2, Value.slice a3 m.h.length cap3] 36)).heap.size = w.heap.size + 1 by simp] at r0
  have k0 : (((w.alloc (Obj.cells #[Value.slice a1 m.s.length cap1, .int .i64 m.c, .int .i64 m.n, Value.slice a2 m.x.length cap2, Value.slice a3 m.h.length cap3] 36)).alloc (Obj.cells #[Value.int IntKind.i64 t, Value.int IntKind.i64 r] 46)).alloc (Obj.cells #[Value.slice none 0 0, .int .i64 0, .int .i64 0, Value.slice none 0 0, Value.slice none 0 0] 36)).cell? ⟨w.heap.size + 1, 0, none⟩ = some (.int .i64 t) := by simp [go_sem]
  have k1 : (((w.alloc (Obj.cells #[Value.slice a1 m.s.length cap1, .int .i64 m.c, .int .i64 m.n, Value.slice a2 m.x.length cap2, Value.slice a3 m.h.length cap3] 36)).alloc (Obj.cells #[Value.int IntKind.i64 t, Value.int IntKind.i64 r] 46)).alloc (Obj.cells #[Value.slice none 0 0, .int .i64 0, .int .i64 0, Value.slice none 0 0, Value.slice none 0 0] 36)).cell? ⟨w.heap.size + 1, 1, none⟩ = some (.int .i64 r) := by simp [go_sem]
  have hz0 : w.heap.size + 1 + 1 < (((w.alloc (Obj.cells #[Value.slice a1 m.s.length cap1, .int .i64 m.c, .int .i64 m.n, Value.slice a2 m.x.length cap2, Value.slice a3 m.h.length cap3] 36)).alloc (Obj.cells #[Value.int IntKind.i64 t, Value.int IntKind.i64 r] 46)).alloc (Obj.cells #[Value.slice none 0 0, .int .i64 0, .int .i64 0, Value.slice none 0 0, Value.slice none 0 0] 36)).heap.size := by simp
  go_enter Tryz.func17, Tryz.ntmps17
  go_wp2_with fail
  generalize ((w.alloc (Obj.cells #[Value.slice a1 m.s.length cap1, .int .i64 m.c, .int .i64 m.n, Value.slice a2 m.x.length cap2, Value.slice a3 m.h.length cap3] 36)).alloc (Obj.cells #[Value.int IntKind.i64 t, Value.int IntKind.i64 r] 46)).alloc (Obj.cells #[Value.slice none 0 0, .int .i64 0, .int .i64 0, Value.slice none 0 0, Value.slice none 0 0] 36) = W0 at *
  refine Calls.mono (copyMgr_own _ _ _ m _ (h.stays b0) hn) ?_
  rintro e w1 ⟨B, s0, s1, vs1, vt1, ve1, wv1, rfl, P1, hb1⟩
  have b1 := b0.trans (hb1.mono b0.size)
  have r1 := r0.of_block (hb1.block _ hz0)
  have hz1 := hb1.size
  have k0' := cell_stays hb1 k0
  have k1' := cell_stays hb1 k1
  clear r0 hb1 k0 k1
  go_wp2_with fail
  refine Calls.mono (readRow_any _ B s0 s1 vs1 vt1 ve1 m wv1 tx t r _ P1 hn.room hwf wt wr) ?_
  rintro e w2 ⟨hb2, hcase⟩
  have b2 := b1.trans (hb2.mono (by omega))
  have r2 := r1.of_block (hb2.block _ hz0)
  have hz2 := hb2.size
  have L2 := hL.stays b2
  clear r1 b1
  rcases hcase with ⟨hok, ht, hh, i, p, ve2, hi, hp, rfl, P2⟩ | ⟨hno, rfl⟩ | ⟨hok, hx, ht, hh, rfl⟩
  · have HB : Hid (RR m (rdM m tx t r p) tx t r p.1 0) := .inl ⟨hok, ht, hh, i, p, hi, hp, rfl, rfl, rfl⟩
    clear hok ht hh hi hp
    go_wp2_with fail
    refine Calls.mono (told_ptr _ B s0 s1 vs1 vt1 ve2 (rdM m tx t r p) wv1 _ P2) ?_
    rintro e w3 ⟨rfl, hb3⟩
    have r3 := r2.of_block (hb3.block _ (by omega))
    have O3 := P2.own.stays hb3
    have b3 := b2.trans (hb3.mono b2.size)
    obtain ⟨a2, c2, rfl⟩ := owns_sliceM O3.x
    obtain ⟨a3, c3, rfl⟩ := owns_sliceM O3.h
    obtain ⟨a1, n1, c1, rfl⟩ : ∃ a n c, vs1 = .slice a n c := by
      rcases O3.s with ⟨rfl, _⟩ | ⟨b, Bs, cap, rfl, _⟩
      · exact ⟨_, _, _, rfl⟩
      · exact ⟨_, _, _, rfl⟩
    clear P1 P2 hb3 r2 L2 hL
    have c0 := r3.cell (show 0 < 5 by omega)
    have c1' := r3.cell (show 1 < 5 by omega)
    have c2' := r3.cell (show 2 < 5 by omega)
    have c3' := r3.cell (show 3 < 5 by omega)
    have c4' := r3.cell (show 4 < 5 by omega)
    have f0 := r3.frozen 0
    have f1 := r3.frozen 1
    have f2 := r3.frozen 2
    have f3 := r3.frozen 3
    have f4 := r3.frozen 4
    have hz3 := r3.lt
    go_wp2
    obtain ⟨kz, kk⟩ := boxed_keep w3 (w.heap.size + 1 + 1) (.slice a1 n1 c1) (.int .i64 (rdM m tx t r p).c) (.int .i64 (rdM m tx t r p).n) (.slice a2 (rdM m tx t r p).x.length c2) (.slice a3 (rdM m tx t r p).h.length c3) (Obj.cells #[Value.slice a1 n1 c1, .int .i64 (rdM m tx t r p).c, .int .i64 (rdM m tx t r p).n, Value.slice a2 (rdM m tx t r p).x.length c2, Value.slice a3 (rdM m tx t r p).h.length c3] 36)
    have OF := (O3.keep (fun k h1 h2 => kk k (by omega) h2) kz).mono (base' := w.heap.size) (by omega)
    refine bodyPost_ret (v := .tuple #[.agg #[.slice a1 n1 c1, .int .i64 (rdM m tx t r p).c, .int .i64 (rdM m tx t r p).n, .slice a2 (rdM m tx t r p).x.length c2, .slice a3 (rdM m tx t r p).h.length c3], .int .i64 p.1, .int .i64 0]) (by simp [results, Tryz.results17, go_sem, c0, c1', c2', c3', c4', hz3]) rfl ⟨_, rdM m tx t r p, _, _, rfl, ⟨s0, s1, _, _, _, _, rfl, OF⟩, HB.out, ?_⟩
    repeat (first | exact b3 | refine Below.alloc ?_ (by simp only [size_setCell]; omega) _ | refine Below.setCell ?_ (by simp; omega) _)
  · have HB : Hid (RR m md0 tx t r 0 1) := .inr (.inl ⟨hno, rfl, rfl, rfl⟩)
    clear hno P1
    simp only [refE]
    go_wp2_with fail
    refine Calls.mono (told_err _ 1 _ L2) ?_
    rintro e w3 ⟨rfl, hb3⟩
    have r3 := r2.of_block (hb3.block _ (by omega))
    have b3 := b2.trans (hb3.mono b2.size)
    clear hb3 r2 L2 hL
    have c0 := r3.cell (show 0 < 5 by omega)
    have c1' := r3.cell (show 1 < 5 by omega)
    have c2' := r3.cell (show 2 < 5 by omega)
    have c3' := r3.cell (show 3 < 5 by omega)
    have c4' := r3.cell (show 4 < 5 by omega)
    have f0 := r3.frozen 0
    have f1 := r3.frozen 1
    have f2 := r3.frozen 2
    have f3 := r3.frozen 3
    have f4 := r3.frozen 4
    have hz3 := r3.lt
    go_wp2
    obtain ⟨kz, kk⟩ := boxed_keep w3 (w.heap.size + 1 + 1) (.slice none 0 0) (.int .i64 0) (.int .i64 0) (.slice none 0 0) (.slice none 0 0) (Obj.cells #[Value.slice none 0 0, .int .i64 0, .int .i64 0, Value.slice none 0 0, Value.slice none 0 0] 36)
    have OF := OwnM.none w.heap.size ((((((w3.setCell ⟨w.heap.size + 1 + 1, 0, none⟩ (.slice none 0 0)).setCell ⟨w.heap.size + 1 + 1, 1, none⟩ (.int .i64 0)).setCell ⟨w.heap.size + 1 + 1, 2, none⟩ (.int .i64 0)).setCell ⟨w.heap.size + 1 + 1, 3, none⟩ (.slice none 0 0)).setCell ⟨w.heap.size + 1 + 1, 4, none⟩ (.slice none 0 0)).alloc (Obj.cells #[Value.slice none 0 0, .int .i64 0, .int .i64 0, Value.slice none 0 0, Value.slice none 0 0] 36)) (by have := b3.size; omega)
    refine bodyPost_ret (v := .tuple #[.agg #[.slice none 0 0, .int .i64 0, .int .i64 0, .slice none 0 0, .slice none 0 0], .int .i64 0, .int .i64 1]) (by simp [results, Tryz.results17, go_sem, c0, c1', c2', c3', c4', hz3]) rfl ⟨_, md0, _, _, rfl, ⟨_, _, _, _, _, _, rfl, OF⟩, HB.out, ?_⟩
    repeat (first | exact b3 | refine Below.alloc ?_ (by simp only [size_setCell]; omega) _ | refine Below.setCell ?_ (by simp; omega) _)
  · have HB : Hid (RR m md0 tx t r 0 2) := .inr (.inr ⟨hok, hx, ht, hh, rfl, rfl, rfl⟩)
    clear hok hx ht hh P1
    simp only [refE]
    go_wp2_with fail
    refine Calls.mono (told_err _ 2 _ L2) ?_
    rintro e w3 ⟨rfl, hb3⟩
    have r3 := r2.of_block (hb3.block _ (by omega))
    have b3 := b2.trans (hb3.mono b2.size)
    clear hb3 r2 L2 hL
    have c0 := r3.cell (show 0 < 5 by omega)
    have c1' := r3.cell (show 1 < 5 by omega)
    have c2' := r3.cell (show 2 < 5 by omega)
    have c3' := r3.cell (show 3 < 5 by omega)
    have c4' := r3.cell (show 4 < 5 by omega)
    have f0 := r3.frozen 0
    have f1 := r3.frozen 1
    have f2 := r3.frozen 2
    have f3 := r3.frozen 3
    have f4 := r3.frozen 4
    have hz3 := r3.lt
    go_wp2
    obtain ⟨kz, kk⟩ := boxed_keep w3 (w.heap.size + 1 + 1) (.slice none 0 0) (.int .i64 0) (.int .i64 0) (.slice none 0 0) (.slice none 0 0) (Obj.cells #[Value.slice none 0 0, .int .i64 0, .int .i64 0, Value.slice none 0 0, Value.slice none 0 0] 36)
    have OF := OwnM.none w.heap.size ((((((w3.setCell ⟨w.heap.size + 1 + 1, 0, none⟩ (.slice none 0 0)).setCell ⟨w.heap.size + 1 + 1, 1, none⟩ (.int .i64 0)).setCell ⟨w.heap.size + 1 + 1, 2, none⟩ (.int .i64 0)).setCell ⟨w.heap.size + 1 + 1, 3, none⟩ (.slice none 0 0)).setCell ⟨w.heap.size + 1 + 1, 4, none⟩ (.slice none 0 0)).alloc (Obj.cells #[Value.slice none 0 0, .int .i64 0, .int .i64 0, Value.slice none 0 0, Value.slice none 0 0] 36)) (by have := b3.size; omega)
    refine bodyPost_ret (v := .tuple #[.agg #[.slice none 0 0, .int .i64 0, .int .i64 0, .slice none 0 0, .slice none 0 0], .int .i64 0, .int .i64 2]) (by simp [results, Tryz.results17, go_sem, c0, c1', c2', c3', c4', hz3]) rfl ⟨_, md0, _, _, rfl, ⟨_, _, _, _, _, _, rfl, OF⟩, HB.out, ?_⟩
    repeat (first | exact b3 | refine Below.alloc ?_ (by simp only [size_setCell]; omega) _ | refine Below.setCell ?_ (by simp; omega) _)
end Go.Proofs.YtmecbppblbmchaaGreatDoor

/- spec.l1read: what is read of a row at an hour. -/
namespace Go.Proofs.YtmecbppblbmchaaGreatDoor
open Go.ChangeShapes Go.WideShapes Go.ChangeAt Go.RowKit Go.Sort Go.Maps
set_option linter.unusedVariables false
set_option maxRecDepth 100000
attribute [local go_sem ↓] Go.wp_at_zero Go.wp_at_succ

set_option maxHeartbeats 1000000 in
theorem l1read_any (v : Value) (l : List Ch) (t r h : Int) (w : World) {lo hi : Nat} (hl : ChainsAt lo hi w v l) :
    Calls Tryz.prog 80 #[.agg #[v], .agg #[.int .i64 t, .int .i64 r], .int .i64 h] w fun e w' => ∃ x : Vr, e = .returned (.agg #[.int .i64 x.1, .int .i64 x.2]) ∧ IsRead l t r h x ∧ Below w.heap.size w w' := by
  have hl2 := hl
  obtain ⟨a, cap, hv, hm, hc⟩ := hl2
  subst hv
  unfold maxLen at hm
  have hbx : Below w.heap.size w ((((w.alloc (Obj.cells #[Value.slice a l.length cap] 32)).alloc (Obj.cells #[.int .i64 t, .int .i64 r] 46)).alloc (Obj.cells #[.int .i64 0, .int .i64 0] 123)).alloc (Obj.cells #[.int .i64 0, .int .i64 0] 123)) :=
    (((Below.refl _ _).alloc (Nat.le_refl _) _).alloc (by simp) _).alloc (by simp; omega) _ |>.alloc (by simp; omega) _
  go_enter Tryz.func80, Tryz.ntmps80
  go_wp2_with fail
  refine (l1chain_any _ l t r _ (hl.stays hbx)).mono ?_
  rintro e w1 ⟨x, rfl, hx, hb1⟩
  have b1 := hbx.trans (hb1.mono hbx.size)
  obtain ⟨hc1, hf1⟩ := bcell hb1
  have z0 : w1.cell? ⟨w.heap.size, 0, none⟩ = some (.slice a l.length cap) := by rw [hc1 _ _ (by simp; omega)]; simp [go_sem]
  have z1 : w1.cell? ⟨w.heap.size + 1 + 1, 0, none⟩ = some (.int .i64 0) := by rw [hc1 _ _ (by simp)]; simp [go_sem]
  have z2 : w1.cell? ⟨w.heap.size + 1 + 1, 1, none⟩ = some (.int .i64 0) := by rw [hc1 _ _ (by simp)]; simp [go_sem]
  have z3 : w1.cell? ⟨w.heap.size + 1 + 1 + 1, 0, none⟩ = some (.int .i64 0) := by rw [hc1 _ _ (by simp)]; simp [go_sem]
  have z4 : w1.cell? ⟨w.heap.size + 1 + 1 + 1, 1, none⟩ = some (.int .i64 0) := by rw [hc1 _ _ (by simp)]; simp [go_sem]
  have y1 : w1.frozen? ⟨w.heap.size + 1 + 1, 0, none⟩ = false := by rw [hf1 _ _ (by simp)]; simp [go_sem]
  have y2 : w1.frozen? ⟨w.heap.size + 1 + 1, 1, none⟩ = false := by rw [hf1 _ _ (by simp)]; simp [go_sem]
  have y3 : w1.frozen? ⟨w.heap.size + 1 + 1 + 1, 0, none⟩ = false := by rw [hf1 _ _ (by simp)]; simp [go_sem]
  have y4 : w1.frozen? ⟨w.heap.size + 1 + 1 + 1, 1, none⟩ = false := by rw [hf1 _ _ (by simp)]; simp [go_sem]
  clear hc1 hf1 hb1 hbx
  rcases hx with ⟨rfl, hno⟩ | ⟨n, rfl, hn, hkm, hfirst⟩
  · clear hc
    go_wp2
    refine bodyPost_ret (v := .agg #[.int .i64 0, .int .i64 0]) (by simp [results, Tryz.results80, go_sem, z1, z2]) rfl ⟨(0, 0), rfl, .inl ⟨rfl, hno⟩, ?_⟩
    exact (b1.setCell (by simp; omega) _).setCell (by simp; omega) _
  · obtain ⟨b, off, rfl, hlo, hhi, hcc⟩ := hc (by omega)
    obtain ⟨c0, c1, ca, cb, c2, c3⟩ := hcc n hn
    obtain ⟨a2, cap2, e2, hm2, hc2⟩ := c3
    injection e2 with e2a e2b e2c
    subst e2a e2c
    clear e2b hcc hc c0 c1
    unfold maxLen at hm2
    have n0 : (0 : Int) ≤ (n : Int) := by omega
    have n1 : (n : Int) < (l.length : Int) := by omega
    go_wp2
    go_loopw [9] (fun i wr => ∃ (q : Nat) (x : Vr), q ≤ (cAt l n).l.length ∧ i = .int .i64 q ∧ Below w.heap.size w wr ∧ wr.cell? ⟨w.heap.size, 0, none⟩ = some (.slice (some ⟨b, off, none⟩) l.length cap) ∧
        (∃ u, wr.cell? ⟨w.heap.size + 1 + 1, 0, none⟩ = some u) ∧ (∃ u, wr.cell? ⟨w.heap.size + 1 + 1, 1, none⟩ = some u) ∧ wr.cell? ⟨w.heap.size + 1 + 1 + 1, 0, none⟩ = some (.int .i64 x.1) ∧ wr.cell? ⟨w.heap.size + 1 + 1 + 1, 1, none⟩ = some (.int .i64 x.2) ∧
        wr.frozen? ⟨w.heap.size + 1 + 1, 0, none⟩ = false ∧ wr.frozen? ⟨w.heap.size + 1 + 1, 1, none⟩ = false ∧ wr.frozen? ⟨w.heap.size + 1 + 1 + 1, 0, none⟩ = false ∧ wr.frozen? ⟨w.heap.size + 1 + 1 + 1, 1, none⟩ = false ∧
        IsLast (cAt l n).l h q x) (fun i _ => (cAt l n).l.length - (intOf i).toNat)
    case atStart => exact ⟨0, (0, 0), Nat.zero_le _, rfl, b1, z0, ⟨_, z1⟩, ⟨_, z2⟩, z3, z4, y1, y2, y3, y4, .inl ⟨rfl, fun j hj => absurd hj (Nat.not_lt_zero _)⟩⟩
    case round =>
      clear z0 z1 z2 z3 z4 y1 y2 y3 y4
      obtain ⟨q, x, hq, rfl, hb, z0, ⟨u1, z1⟩, ⟨u2, z2⟩, z3, z4, y1, y2, y3, y4, hlast⟩ := hrel
      have d2 := cell_stays hb c2
      by_cases hlt : q < (cAt l n).l.length
      · obtain ⟨b2, off2, rfl, _, _, hcc2⟩ := hc2 (by omega)
        have e0 := cell_stays hb (hcc2 q hlt).1
        have e1 := cell_stays hb (hcc2 q hlt).2
        clear hcc2 hc2
        have j0 : (0 : Int) ≤ (q : Int) := by omega
        have j1 : (q : Int) < ((cAt l n).l.length : Int) := by omega
        by_cases hle : (vAt (cAt l n).l q).1 ≤ h
        · go_wp2
          go_roundw
          case rel => exact ⟨q + 1, vAt (cAt l n).l q, by omega, by go_num, (hb.setCell (by simp; omega) _).setCell (by simp; omega) _, by simp [go_sem, z0], ⟨u1, by simp [go_sem, z1]⟩, ⟨u2, by simp [go_sem, z2]⟩, by simp [go_sem, z3], by simp [go_sem, z4], by simp [go_sem, y1], by simp [go_sem, y2], by simp [go_sem, y3], by simp [go_sem, y4], IsLast.step_yes hle⟩
          case measure => simp [intOf]; omega
        · go_wp2
          go_roundw
          case rel => exact ⟨q + 1, x, by omega, by go_num, hb, z0, ⟨_, z1⟩, ⟨_, z2⟩, z3, z4, y1, y2, y3, y4, hlast.step_no (by omega)⟩
          case measure => simp [intOf]; omega
      · have hqq : q = (cAt l n).l.length := by omega
        go_wp2
        refine bodyPost_ret (v := .agg #[.int .i64 x.1, .int .i64 x.2]) (by simp [results, Tryz.results80, go_sem, z1, z2]) rfl ⟨x, rfl, .inr ⟨n, hn, hkm, hfirst, hqq ▸ hlast⟩, ?_⟩
        exact (hb.setCell (by simp; omega) _).setCell (by simp; omega) _

/-! ### ReadAt -/

end Go.Proofs.YtmecbppblbmchaaGreatDoor

/- The specification's l2row and l2read. -/
namespace Go.Proofs.YtmecbppblbmchaaGreatDoor
open Go.ChangeShapes Go.WideShapes Go.ChangeAt Go.RowKit Go.Sort Go.Maps
set_option linter.unusedVariables false
set_option maxRecDepth 100000
attribute [local go_sem ↓] Go.wp_at_zero Go.wp_at_succ

/-- What l2row answers. -/
def RowAns (l : List Rw) (t r : Int) (x : Int) : Prop := (x = -1 ∧ ∀ j, ¬ AtK l t r j) ∨ ∃ k : Nat, x = (k : Int) ∧ AtK l t r k

set_option maxHeartbeats 2000000 in
theorem l2row_any (v : Value) (l : List Rw) (t r : Int) (w : World) {lo hi : Nat} (h : RowsAt lo hi w v l) :
    Calls Tryz.prog 79 #[v, .agg #[.int .i64 t, .int .i64 r]] w fun e w' => (∃ x, e = .returned (.int .i64 x) ∧ RowAns l t r x) ∧ Below w.heap.size w w' := by
  obtain ⟨a, cap, rfl, hm, hc⟩ := h
  unfold maxLen at hm
  have hbx : Below w.heap.size w (w.alloc (Obj.cells #[.int .i64 t, .int .i64 r] 46)) := (Below.refl _ _).alloc (Nat.le_refl _) _
  go_enter Tryz.func79, Tryz.ntmps79
  go_wp2
  go_loopw [5] (fun i wr => ∃ k : Nat, k ≤ l.length ∧ i = .int .i64 k ∧ Below w.heap.size w wr ∧ wr.cell? ⟨w.heap.size, 0, none⟩ = some (.int .i64 t) ∧ wr.cell? ⟨w.heap.size, 1, none⟩ = some (.int .i64 r) ∧ Hid (∀ j, j < k → ¬ AtK l t r j)) (fun i _ => l.length - (intOf i).toNat)
  case atStart => exact ⟨0, Nat.zero_le _, rfl, hbx, by simp, by simp, fun j hj => absurd hj (Nat.not_lt_zero _)⟩
  case round =>
    obtain ⟨k, hk, rfl, hb, hp1, hp2, hs⟩ := hrel
    by_cases hlt : k < l.length
    · obtain ⟨b, off, rfl, hlo, hhi, hcc⟩ := hc (by omega)
      obtain ⟨c0, c1, _⟩ := hcc k hlt
      have k1 := cell_regrown hp1
      have k2 := cell_regrown hp2
      have k3 := cell_regrown (cell_stays hb c0)
      have k4 := cell_regrown (cell_stays hb c1)
      have i0 : (0 : Int) ≤ (k : Int) := by omega
      have i1 : (k : Int) < (l.length : Int) := by omega
      clear hc hcc c0 c1
      have keq := key_eql (rAt l k).t (rAt l k).r t r
      by_cases hkm : (rAt l k).t = t ∧ (rAt l k).r = r
      · have hd : decide ((rAt l k).t = t ∧ (rAt l k).r = r) = true := decide_eq_true hkm
        rw [hd] at keq
        have HK : Hid (AtK l t r k) := ⟨hlt, hkm⟩
        clear hkm hd
        go_wp2_with fail
        refine wp_region_quiet_below (by kernel_rfl) (by kernel_rfl) ?_
        repeat (go_big_quiet_step (fail))
        refine wpQuiet_nil ?_
        intro w2 hw2
        obtain ⟨⟨dq, osq⟩, hw3⟩ := hw2
        have hb2 : Below _ _ w2 := hw3 ▸ below_regrown _ dq osq
        clear hw3 keq k1 k2 k3 k4
        go_wp2
        go_ret
        exact ⟨⟨_, rfl, .inr ⟨k, rfl, HK.out⟩⟩, hb.trans (hb2.mono hb.size)⟩
      · have hd : decide ((rAt l k).t = t ∧ (rAt l k).r = r) = false := decide_eq_false hkm
        rw [hd] at keq
        have HK : Hid (∀ j, j < k + 1 → ¬ AtK l t r j) := fun j hj => by
          by_cases e : j = k
          · subst e; exact fun h => hkm h.2
          · exact hs.out j (by omega)
        clear hkm hd hs
        go_wp2_with fail
        refine wp_region_quiet_below (by kernel_rfl) (by kernel_rfl) ?_
        repeat (go_big_quiet_step (fail))
        refine wpQuiet_nil ?_
        intro w2 hw2
        obtain ⟨⟨dq, osq⟩, hw3⟩ := hw2
        have hb2 : Below _ _ w2 := hw3 ▸ below_regrown _ dq osq
        clear hw3 keq k1 k2 k3 k4
        go_wp2
        go_roundw
        case rel => exact ⟨k + 1, by omega, by go_num, hb.trans (hb2.mono hb.size), cell_stays hb2 hp1, cell_stays hb2 hp2, HK⟩
        case measure => simp [intOf]; omega
    · have HN : Hid (∀ j, ¬ AtK l t r j) := fun j hj => hs.out j (by have := hj.1; omega) hj
      clear hs hc
      go_wp2
      go_ret
      exact ⟨⟨_, rfl, .inl ⟨rfl, HN.out⟩⟩, hb⟩
end Go.Proofs.YtmecbppblbmchaaGreatDoor
