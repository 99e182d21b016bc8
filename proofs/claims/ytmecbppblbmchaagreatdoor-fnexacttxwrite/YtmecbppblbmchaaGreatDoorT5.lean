import Derived.Test.YtmecbppblbmchaaGreatDoorT4
import Derived.Test.YtmecbppblbmchaaGreatDoorM4
import Derived.Deep.RegionHeld3
import Derived.Deep.CutRange
/- The program's TxRead. -/
namespace Go.Proofs.YtmecbppblbmchaaGreatDoor
open Go.ChangeShapes Go.WideShapes Go.ChangeAt Go.RowKit Go.Sort
set_option linter.unusedVariables false
set_option maxRecDepth 100000
attribute [local go_sem ↓] Go.wp_at_zero Go.wp_at_succ

/-- What TxRead comes to. -/
def RR (m x : Md) (tx t r val code : Int) : Prop :=
  (mgrOk m ∧ tabB t = true ∧ m.h.length ≤ 2998 ∧ ∃ i p, IsTx m tx i ∧ RdIs m t r i p ∧ x = rdM m tx t r p ∧ val = p.1 ∧ code = 0) ∨
  ((¬ mgrOk m ∨ NoTx m tx ∨ ¬ tabB t = true) ∧ x = md0 ∧ val = 0 ∧ code = 1) ∨
  (mgrOk m ∧ (∃ i, IsTx m tx i) ∧ tabB t = true ∧ ¬ m.h.length ≤ 2998 ∧ x = md0 ∧ val = 0 ∧ code = 2)
theorem RdIs.one {m : Md} {t r : Int} {i : Nat} {p p' : Int × Int} (hu : RowsUp (tAt m.x i).w) (h : RdIs m t r i p) (h' : RdIs m t r i p') : p = p' := by
  rcases h with ⟨j, hj, rfl⟩ | ⟨hno, rfl⟩ <;> rcases h' with ⟨j', hj', rfl⟩ | ⟨hno', rfl⟩
  · have e := (LowK.at (lowP_low hu t r) hu hj).trans (LowK.at (lowP_low hu t r) hu hj').symm
    rw [e]
  · exact absurd hj (hno' j)
  · exact absurd hj' (hno j')
  · rfl
theorem noTx_isTx {m : Md} {tx : Int} {i : Nat} (h : NoTx m tx) (hi : IsTx m tx i) : False := h i hi.1 hi.2.1
theorem RR.one {m x x' : Md} {tx t r val val' code code' : Int} (h : RR m x tx t r val code) (h' : RR m x' tx t r val' code') : x = x' ∧ val = val' ∧ code = code' := by
  rcases h with ⟨a, b, c, i, p, hi, hp, rfl, rfl, rfl⟩ | ⟨a, rfl, rfl, rfl⟩ | ⟨a, ⟨i, hi⟩, b, c, rfl, rfl, rfl⟩ <;> rcases h' with ⟨a', b', c', i', p', hi', hp', rfl, rfl, rfl⟩ | ⟨a', rfl, rfl, rfl⟩ | ⟨a', ⟨i', hi'⟩, b', c', rfl, rfl, rfl⟩
  · obtain rfl := hi.one hi'
    rw [RdIs.one (mgr_up a hi.1) hp hp']
    exact ⟨rfl, rfl, rfl⟩
  · rcases a' with h | h | h
    · exact absurd a h
    · exact (noTx_isTx h hi).elim
    · exact absurd b h
  · exact absurd c c'
  · rcases a with h | h | h
    · exact absurd a' h
    · exact (noTx_isTx h hi').elim
    · exact absurd b' h
  · exact ⟨rfl, rfl, rfl⟩
  · rcases a with h | h | h
    · exact absurd a' h
    · exact (noTx_isTx h hi').elim
    · exact absurd b' h
  · exact absurd c' c
  · rcases a' with h | h | h
    · exact absurd a h
    · exact (noTx_isTx h hi).elim
    · exact absurd b h
  · exact ⟨rfl, rfl, rfl⟩

set_option maxHeartbeats 4000000 in
theorem implTxRead_any (vs vt ve : Value) (m : Md) (tx t r : Int) (w : World) {lo hi : Nat} (h : MAt lo hi w vs vt ve m) (hn : SmallM m) (hwf : WfCh m.s) (wt : wf t) (wr : wf r) (hL : Laid w) :
    Calls Tryz.prog 17 #[.agg #[vs, .int .i64 m.c, .int .i64 m.n, vt, ve], .int .i64 tx, .agg #[.int .i64 t, .int .i64 r]] w fun e w' => ∃ v x val code, e = .returned (.tuple #[v, .int .i64 val, .int .i64 code]) ∧ AnsM w.heap.size w' v x ∧ RR m x tx t r val code ∧ Below w.heap.size w w' := by
  obtain ⟨a1, cap1, hv1⟩ : ∃ a cap, vs = .slice a m.s.length cap := by obtain ⟨a, cap, h1, _⟩ := h.s; exact ⟨a, cap, h1⟩
  obtain ⟨a2, cap2, hv2⟩ : ∃ a cap, vt = .slice a m.x.length cap := by obtain ⟨a, cap, h1, _⟩ := h.x; exact ⟨a, cap, h1⟩
  obtain ⟨a3, cap3, hv3⟩ : ∃ a cap, ve = .slice a m.h.length cap := by obtain ⟨a, cap, h1, _⟩ := h.h; exact ⟨a, cap, h1⟩
  subst hv1 hv2 hv3
  have b0 : Below w.heap.size w (((w.alloc (Obj.cells #[Value.slice a1 m.s.length cap1, .int .i64 m.c, .int .i64 m.n, Value.slice a2 m.x.length cap2, Value.slice a3 m.h.length cap3] 36)).alloc (Obj.cells #[Value.int IntKind.i64 t, Value.int IntKind.i64 r] 46)).alloc (Obj.cells #[Value.slice none 0 0, .int .i64 0, .int .i64 0, Value.slice none 0 0, Value.slice none 0 0] 36)) := (((Below.refl _ _).alloc (Nat.le_refl _) _).alloc (by simp) _).alloc (by simp; omega) _
  have r0 := zeroBox (w.alloc (Obj.cells #[Value.slice a1 m.s.length cap1, .int .i64 m.c, .int .i64 m.n, Value.slice a2 m.x.length cap2, Value.slice a3 m.h.length cap3] 36)) (Obj.cells #[Value.int IntKind.i64 t, Value.int IntKind.i64 r] 46)
  rw [show (w.alloc (Obj.cells #[Value.slice a1 m.s.length cap1, .int .i64 m.c, .int .i64 m.n, Value.slice a2 m.x.length cap2, Value.slice a3 m.h.length cap3] 36)).heap.size = w.heap.size + 1 by simp] at r0
  have k0 : (((w.alloc (Obj.cells #[Value.slice a1 m.s.length cap1, .int .i64 m.c, .int .i64 m.n, Value.slice a2 m.x.length cap2, Value.slice a3 m.h.length cap3] 36)).alloc (Obj.cells #[Value.int IntKind.i64 t, Value.int IntKind.i64 r] 46)).alloc (Obj.cells #[Value.slice none 0 0, .int .i64 0, .int .i64 0, Value.slice none 0 0, Value.slice none 0 0] 36)).cell? ⟨w.heap.size + 1, 0, none⟩ = some (.int .i64 t) := by simp [go_sem]
  have k1 : (((w.alloc (Obj.cells #[Value.slice a1 m.s.length cap1, .int .i64 m.c, .int .i64 m.n, Value.slice a2 m.x.length cap2, Value.slice a3 m.h.length cap3] 36)).alloc (Obj.cells #[Value.int IntKind.i64 t, Value.int IntKind.i64 r] 46)).alloc (Obj.cells #[Value.slice none 0 0, .int .i64 0, .int .i64 0, Value.slice none 0 0, Value.slice none 0 0] 36)).cell? ⟨w.heap.size + 1, 1, none⟩ = some (.int .i64 r) := by simp [go_sem]
  have hz0 : w.heap.size + 1 + 1 < (((w.alloc (Obj.cells #[Value.slice a1 m.s.length cap1, .int .i64 m.c, .int .i64 m.n, Value.slice a2 m.x.length cap2, Value.slice a3 m.h.length cap3] 36)).alloc (Obj.cells #[Value.int IntKind.i64 t, Value.int IntKind.i64 r] 46)).alloc (Obj.cells #[Value.slice none 0 0, .int .i64 0, .int .i64 0, Value.slice none 0 0, Value.slice none 0 0] 36)).heap.size := by simp
  go_enter Tryz.func17, Tryz.ntmps17
  go_wp2_with fail
  generalize ((w.alloc (Obj.cells #[Value.slice a1 m.s.length cap1, .int .i64 m.c, .int .i64 m.n, Value.slice a2 m.x.length cap2, Value.slice a3 m.h.length cap3] 36)).alloc (Obj.cells #[Value.int IntKind.i64 t, Value.int IntKind.i64 r] 46)).alloc (Obj.cells #[Value.slice none 0 0, .int .i64 0, .int .i64 0, Value.slice none 0 0, Value.slice none 0 0] 36) = W0 at *
  refine Calls.mono (copyMgr_own _ _ _ m _ (h.stays b0) hn) ?_
  rintro e w1 ⟨B, s0, s1, vs1, vt1, ve1, wv1, rfl, P1, hb1⟩
  have b1 := b0.trans (hb1.mono b0.size)
  have r1 := r0.of_block (hb1.block _ hz0)
  have hz1 := hb1.size
  have k0' := cell_stays hb1 k0
  have k1' := cell_stays hb1 k1
  clear r0 hb1 k0 k1
  go_wp2_with fail
  refine Calls.mono (readRow_any _ B s0 s1 vs1 vt1 ve1 m wv1 tx t r _ P1 hn.room hwf wt wr) ?_
  rintro e w2 ⟨hb2, hcase⟩
  have b2 := b1.trans (hb2.mono (by omega))
  have r2 := r1.of_block (hb2.block _ hz0)
  have hz2 := hb2.size
  have L2 := hL.stays b2
  clear r1 b1
  rcases hcase with ⟨hok, ht, hh, i, p, ve2, hi, hp, rfl, P2⟩ | ⟨hno, rfl⟩ | ⟨hok, hx, ht, hh, rfl⟩
  · have HB : Hid (RR m (rdM m tx t r p) tx t r p.1 0) := .inl ⟨hok, ht, hh, i, p, hi, hp, rfl, rfl, rfl⟩
    clear hok ht hh hi hp
    go_wp2_with fail
    refine Calls.mono (told_ptr _ B s0 s1 vs1 vt1 ve2 (rdM m tx t r p) wv1 _ P2) ?_
    rintro e w3 ⟨rfl, hb3⟩
    have r3 := r2.of_block (hb3.block _ (by omega))
    have O3 := P2.own.stays hb3
    have b3 := b2.trans (hb3.mono b2.size)
    obtain ⟨a2, c2, rfl⟩ := owns_sliceM O3.x
    obtain ⟨a3, c3, rfl⟩ := owns_sliceM O3.h
    obtain ⟨a1, n1, c1, rfl⟩ : ∃ a n c, vs1 = .slice a n c := by
      rcases O3.s with ⟨rfl, _⟩ | ⟨b, Bs, cap, rfl, _⟩
      · exact ⟨_, _, _, rfl⟩
      · exact ⟨_, _, _, rfl⟩
    clear P1 P2 hb3 r2 L2 hL
    have c0 := r3.cell (show 0 < 5 by omega)
    have c1' := r3.cell (show 1 < 5 by omega)
    have c2' := r3.cell (show 2 < 5 by omega)
    have c3' := r3.cell (show 3 < 5 by omega)
    have c4' := r3.cell (show 4 < 5 by omega)
    have f0 := r3.frozen 0
    have f1 := r3.frozen 1
    have f2 := r3.frozen 2
    have f3 := r3.frozen 3
    have f4 := r3.frozen 4
    have hz3 := r3.lt
    go_wp2
    obtain ⟨kz, kk⟩ := boxed_keep w3 (w.heap.size + 1 + 1) (.slice a1 n1 c1) (.int .i64 (rdM m tx t r p).c) (.int .i64 (rdM m tx t r p).n) (.slice a2 (rdM m tx t r p).x.length c2) (.slice a3 (rdM m tx t r p).h.length c3) (Obj.cells #[Value.slice a1 n1 c1, .int .i64 (rdM m tx t r p).c, .int .i64 (rdM m tx t r p).n, Value.slice a2 (rdM m tx t r p).x.length c2, Value.slice a3 (rdM m tx t r p).h.length c3] 36)
    have OF := (O3.keep (fun k h1 h2 => kk k (by omega) h2) kz).mono (base' := w.heap.size) (by omega)
    refine bodyPost_ret (v := .tuple #[.agg #[.slice a1 n1 c1, .int .i64 (rdM m tx t r p).c, .int .i64 (rdM m tx t r p).n, .slice a2 (rdM m tx t r p).x.length c2, .slice a3 (rdM m tx t r p).h.length c3], .int .i64 p.1, .int .i64 0]) (by simp [results, Tryz.results17, go_sem, c0, c1', c2', c3', c4', hz3]) rfl ⟨_, rdM m tx t r p, _, _, rfl, ⟨s0, s1, _, _, _, _, rfl, OF⟩, HB.out, ?_⟩
    repeat (first | exact b3 | refine Below.alloc ?_ (by simp only [size_setCell]; omega) _ | refine Below.setCell ?_ (by simp; omega) _)
  · have HB : Hid (RR m md0 tx t r 0 1) := .inr (.inl ⟨hno, rfl, rfl, rfl⟩)
    clear hno P1
    simp only [refE]
    go_wp2_with fail
    refine Calls.mono (told_err _ 1 _ L2) ?_
    rintro e w3 ⟨rfl, hb3⟩
    have r3 := r2.of_block (hb3.block _ (by omega))
    have b3 := b2.trans (hb3.mono b2.size)
    clear hb3 r2 L2 hL
    have c0 := r3.cell (show 0 < 5 by omega)
    have c1' := r3.cell (show 1 < 5 by omega)
    have c2' := r3.cell (show 2 < 5 by omega)
    have c3' := r3.cell (show 3 < 5 by omega)
    have c4' := r3.cell (show 4 < 5 by omega)
    have f0 := r3.frozen 0
    have f1 := r3.frozen 1
    have f2 := r3.frozen 2
    have f3 := r3.frozen 3
    have f4 := r3.frozen 4
    have hz3 := r3.lt
    go_wp2
    obtain ⟨kz, kk⟩ := boxed_keep w3 (w.heap.size + 1 + 1) (.slice none 0 0) (.int .i64 0) (.int .i64 0) (.slice none 0 0) (.slice none 0 0) (Obj.cells #[Value.slice none 0 0, .int .i64 0, .int .i64 0, Value.slice none 0 0, Value.slice none 0 0] 36)
    have OF := OwnM.none w.heap.size ((((((w3.setCell ⟨w.heap.size + 1 + 1, 0, none⟩ (.slice none 0 0)).setCell ⟨w.heap.size + 1 + 1, 1, none⟩ (.int .i64 0)).setCell ⟨w.heap.size + 1 + 1, 2, none⟩ (.int .i64 0)).setCell ⟨w.heap.size + 1 + 1, 3, none⟩ (.slice none 0 0)).setCell ⟨w.heap.size + 1 + 1, 4, none⟩ (.slice none 0 0)).alloc (Obj.cells #[Value.slice none 0 0, .int .i64 0, .int .i64 0, Value.slice none 0 0, Value.slice none 0 0] 36)) (by have := b3.size; omega)
    refine bodyPost_ret (v := .tuple #[.agg #[.slice none 0 0, .int .i64 0, .int .i64 0, .slice none 0 0, .slice none 0 0], .int .i64 0, .int .i64 1]) (by simp [results, Tryz.results17, go_sem, c0, c1', c2', c3', c4', hz3]) rfl ⟨_, md0, _, _, rfl, ⟨_, _, _, _, _, _, rfl, OF⟩, HB.out, ?_⟩
    repeat (first | exact b3 | refine Below.alloc ?_ (by simp only [size_setCell]; omega) _ | refine Below.setCell ?_ (by simp; omega) _)
  · have HB : Hid (RR m md0 tx t r 0 2) := .inr (.inr ⟨hok, hx, ht, hh, rfl, rfl, rfl⟩)
    clear hok hx ht hh P1
    simp only [refE]
    go_wp2_with fail
    refine Calls.mono (told_err _ 2 _ L2) ?_
    rintro e w3 ⟨rfl, hb3⟩
    have r3 := r2.of_block (hb3.block _ (by omega))
    have b3 := b2.trans (hb3.mono b2.size)
    clear hb3 r2 L2 hL
    have c0 := r3.cell (show 0 < 5 by omega)
    have c1' := r3.cell (show 1 < 5 by omega)
    have c2' := r3.cell (show 2 < 5 by omega)
    have c3' := r3.cell (show 3 < 5 by omega)
    have c4' := r3.cell (show 4 < 5 by omega)
    have f0 := r3.frozen 0
    have f1 := r3.frozen 1
    have f2 := r3.frozen 2
    have f3 := r3.frozen 3
    have f4 := r3.frozen 4
    have hz3 := r3.lt
    go_wp2
    obtain ⟨kz, kk⟩ := boxed_keep w3 (w.heap.size + 1 + 1) (.slice none 0 0) (.int .i64 0) (.int .i64 0) (.slice none 0 0) (.slice none 0 0) (Obj.cells #[Value.slice none 0 0, .int .i64 0, .int .i64 0, Value.slice none 0 0, Value.slice none 0 0] 36)
    have OF := OwnM.none w.heap.size ((((((w3.setCell ⟨w.heap.size + 1 + 1, 0, none⟩ (.slice none 0 0)).setCell ⟨w.heap.size + 1 + 1, 1, none⟩ (.int .i64 0)).setCell ⟨w.heap.size + 1 + 1, 2, none⟩ (.int .i64 0)).setCell ⟨w.heap.size + 1 + 1, 3, none⟩ (.slice none 0 0)).setCell ⟨w.heap.size + 1 + 1, 4, none⟩ (.slice none 0 0)).alloc (Obj.cells #[Value.slice none 0 0, .int .i64 0, .int .i64 0, Value.slice none 0 0, Value.slice none 0 0] 36)) (by have := b3.size; omega)
    refine bodyPost_ret (v := .tuple #[.agg #[.slice none 0 0, .int .i64 0, .int .i64 0, .slice none 0 0, .slice none 0 0], .int .i64 0, .int .i64 2]) (by simp [results, Tryz.results17, go_sem, c0, c1', c2', c3', c4', hz3]) rfl ⟨_, md0, _, _, rfl, ⟨_, _, _, _, _, _, rfl, OF⟩, HB.out, ?_⟩
    repeat (first | exact b3 | refine Below.alloc ?_ (by simp only [size_setCell]; omega) _ | refine Below.setCell ?_ (by simp; omega) _)
end Go.Proofs.YtmecbppblbmchaaGreatDoor

/- The specification's l2read. -/
namespace Go.Proofs.YtmecbppblbmchaaGreatDoor
open Go.ChangeShapes Go.WideShapes Go.ChangeAt Go.RowKit Go.Sort Go.Maps
set_option linter.unusedVariables false
set_option maxRecDepth 100000
attribute [local go_sem ↓] Go.wp_at_zero Go.wp_at_succ

theorem build_evR2 (x t r : Int) (w : World) : (Instr.build 101 #[(0, .int .i64 2), (1, .int .i64 x), (2, .agg #[.int .i64 t, .int .i64 r]), (4, .int .i64 (-1))]).run Tryz.prog w = .ok (.agg #[.int .i64 2, .int .i64 x, .int .i64 t, .int .i64 r, .int .i64 0, .int .i64 (-1)]) w := by kernel_rfl

/-- The cells of an event that tells of a read. -/
def evf (x t r v a : Int) : Nat → Value
  | 0 => .int .i64 2
  | 1 => .int .i64 x
  | 2 => .int .i64 t
  | 3 => .int .i64 r
  | 4 => .int .i64 v
  | _ => .int .i64 a

set_option maxHeartbeats 8000000 in
theorem l2read_any (base B s0 s1 : Nat) (vs vt ve : Value) (m : Md) (wv : Nat → Value) (tx t r : Int) (i : Nat) (w : World) (h : PtrM base w B s0 s1 vs vt ve m wv) (hn : SmallM' m) (hok : mgrOk m) (hi : IsTx m tx i) (ht : tabB t = true) :
    Calls Tryz.prog 47 #[.pointer (some ⟨B, 0, none⟩), .int .i64 (i : Int), .agg #[.int .i64 t, .int .i64 r]] w fun e w' => Below base w w' ∧
      ((m.h.length ≤ 2998 ∧ ∃ p ve', RdIs m t r i p ∧ e = .returned (.tuple #[.int .i64 p.1, .int .i64 0]) ∧ PtrM base w' B s0 s1 vs vt ve' (rdM m tx t r p) wv) ∨
       (¬ m.h.length ≤ 2998 ∧ e = .returned (.tuple #[.int .i64 0, .int .i64 2]))) := by
  have hM := h.own.mat hn
  obtain ⟨a1, cap1, hv1⟩ : ∃ a cap, vs = .slice a m.s.length cap := by obtain ⟨a, cap, h1, _⟩ := hM.s; exact ⟨a, cap, h1⟩
  obtain ⟨a2, cap2, hv2⟩ : ∃ a cap, vt = .slice a m.x.length cap := by obtain ⟨a, cap, h1, _⟩ := hM.x; exact ⟨a, cap, h1⟩
  obtain ⟨a3, cap3, hv3⟩ : ∃ a cap, ve = .slice a m.h.length cap := by obtain ⟨a, cap, h1, _⟩ := hM.h; exact ⟨a, cap, h1⟩
  subst hv1 hv2 hv3
  have hbase := h.base
  have hBl := h.box.lt
  have hhl := hn.h
  have hnK : ∀ k, w.heap.size ≤ k → (Value.slice a3 m.h.length cap3).ownBlock ≠ some k := fun k hk e => by have := (owns_ltM h.own.h e).2; omega
  have hil := hi.1
  have hid := hi.2.1
  have hwl := hn.w i hil
  have hst := (hok.2.2.2.2.2.2.2 i hil)
  have hStart : hourB (tAt m.x i).s = true := by
    have h1 := (hourB_iff _).1 hok.2.1
    exact (hourB_iff _).2 ⟨hst.2.2.2.1, by have := hst.2.2.2.2.1; omega⟩
  have HRd : ∀ x, IsRead m.s t r (tAt m.x i).s x → readP m.s t r (tAt m.x i).s = (x.2, x.1) := fun x hx => (readP_is (.inr ⟨⟨hok.1, hStart, ht⟩, x, hx, rfl⟩)).symm
  clear hst hStart hok hi
  have bK : Below w.heap.size w (w.alloc (Obj.cells #[Value.int IntKind.i64 t, Value.int IntKind.i64 r] 46)) := (Below.refl _ _).alloc (Nat.le_refl _) _
  have hM1 := hM.stays bK
  have h1 := h.stays bK
  obtain ⟨a', c', e', hmx, hcx⟩ := hM1.x
  injection e' with e1 e2 e3
  subst e1 e3
  clear e2
  unfold maxLen at hmx
  obtain ⟨bt, off, rfl, _, _, hcc⟩ := hcx (by omega)
  obtain ⟨c0, c1, wa, wc, c2, hW⟩ := hcc i hil
  rw [hid] at c0
  clear hcc hcx
  obtain ⟨x0, x1, x2, x3, x4⟩ := h1.mbox
  clear x1 x2
  have i0 : (0 : Int) ≤ (i : Int) := by omega
  have i1 : (i : Int) < (m.x.length : Int) := by omega
  have hz1 : (w.alloc (Obj.cells #[Value.int IntKind.i64 t, Value.int IntKind.i64 r] 46)).heap.size = w.heap.size + 1 := by simp
  have k0 : (w.alloc (Obj.cells #[Value.int IntKind.i64 t, Value.int IntKind.i64 r] 46)).cell? ⟨w.heap.size, 0, none⟩ = some (.int .i64 t) := by simp [go_sem]
  have k1 : (w.alloc (Obj.cells #[Value.int IntKind.i64 t, Value.int IntKind.i64 r] 46)).cell? ⟨w.heap.size, 1, none⟩ = some (.int .i64 r) := by simp [go_sem]
  clear hM
  go_enter Tryz.func47, Tryz.ntmps47
  go_upto_region 1 with (fail)
  generalize w.alloc (Obj.cells #[Value.int IntKind.i64 t, Value.int IntKind.i64 r] 46) = W1 at *
  by_cases hh : (2998 : Int) < (m.h.length : Int)
  · have HH : Hid (¬ m.h.length ≤ 2998) := (show ¬ m.h.length ≤ 2998 by omega)
    go_wp2
    go_ret2
    exact ⟨(bK.mono (by omega)).alloc (by have := bK.size; omega) _, .inr ⟨HH.out, rfl⟩⟩
  · have HH : Hid (m.h.length ≤ 2998) := (show m.h.length ≤ 2998 by omega)
    have hbe := build_evR2 tx t r
    go_upto_region 5 with (fail)
    have bT := ((bK.alloc (by have := bK.size; exact this) (Obj.cells #[.int .i64 tx, .int .i64 (tAt m.x i).s, .slice wa (tAt m.x i).w.length wc] 97)).alloc (by simp; omega) (Obj.cells #[.int .i64 2, .int .i64 tx, .int .i64 t, .int .i64 r, .int .i64 0, .int .i64 (-1)] 101))
    have bT1 : Below W1.heap.size W1 ((W1.alloc (Obj.cells #[.int .i64 tx, .int .i64 (tAt m.x i).s, .slice wa (tAt m.x i).w.length wc] 97)).alloc (Obj.cells #[.int .i64 2, .int .i64 tx, .int .i64 t, .int .i64 r, .int .i64 0, .int .i64 (-1)] 101)) := ((Below.refl _ _).alloc (Nat.le_refl _) _).alloc (by simp) _
    have j1 : ((W1.alloc (Obj.cells #[.int .i64 tx, .int .i64 (tAt m.x i).s, .slice wa (tAt m.x i).w.length wc] 97)).alloc (Obj.cells #[.int .i64 2, .int .i64 tx, .int .i64 t, .int .i64 r, .int .i64 0, .int .i64 (-1)] 101)).cell? ⟨W1.heap.size, 1, none⟩ = some (.int .i64 (tAt m.x i).s) := by simp [go_sem]
    have j2 : ((W1.alloc (Obj.cells #[.int .i64 tx, .int .i64 (tAt m.x i).s, .slice wa (tAt m.x i).w.length wc] 97)).alloc (Obj.cells #[.int .i64 2, .int .i64 tx, .int .i64 t, .int .i64 r, .int .i64 0, .int .i64 (-1)] 101)).cell? ⟨W1.heap.size, 2, none⟩ = some (.slice wa (tAt m.x i).w.length wc) := by simp [go_sem]
    have hE : RowOf ((W1.alloc (Obj.cells #[.int .i64 tx, .int .i64 (tAt m.x i).s, .slice wa (tAt m.x i).w.length wc] 97)).alloc (Obj.cells #[.int .i64 2, .int .i64 tx, .int .i64 t, .int .i64 r, .int .i64 0, .int .i64 (-1)] 101)) (W1.heap.size + 1) 101 6 (evf tx t r 0 (-1)) := by
      refine ⟨#[.int .i64 2, .int .i64 tx, .int .i64 t, .int .i64 r, .int .i64 0, .int .i64 (-1)], ?_, by simp, fun j hj => ?_⟩
      · have := Deep.blk_alloc_new (W1.alloc (Obj.cells #[.int .i64 tx, .int .i64 (tAt m.x i).s, .slice wa (tAt m.x i).w.length wc] 97)) (Obj.cells #[.int .i64 2, .int .i64 tx, .int .i64 t, .int .i64 r, .int .i64 0, .int .i64 (-1)] 101)
        simpa using this
      · match j, hj with
        | 0, _ => rfl
        | 1, _ => rfl
        | 2, _ => rfl
        | 3, _ => rfl
        | 4, _ => rfl
        | 5, _ => rfl
    rw [hz1] at j1 j2 hE
    generalize (W1.alloc (Obj.cells #[.int .i64 tx, .int .i64 (tAt m.x i).s, .slice wa (tAt m.x i).w.length wc] 97)).alloc (Obj.cells #[.int .i64 2, .int .i64 tx, .int .i64 t, .int .i64 r, .int .i64 0, .int .i64 (-1)] 101) = W2 at *
    have k0' := cell_stays bT1 k0
    have k1' := cell_stays bT1 k1
    have hW2 := hW.stays bT1
    have h2 := h1.stays bT1
    have hS2 := hM1.s.stays bT1
    clear c0 c1 c2 x0 x3 x4 k0 k1 hW h1 hM1 bK bT1
    go_wp2_with fail
    refine (l2row_any _ (tAt m.x i).w t r _ hW2).mono ?_
    rintro e w3 ⟨⟨x, rfl, hx⟩, hb3⟩
    have hz3 := hb3.size
    have b3 := bT.trans (hb3.mono (by have := bT.size; omega))
    have u0 := cell_stays hb3 k0'
    have u1 := cell_stays hb3 k1'
    have v1 := cell_stays hb3 j1
    have v2 := cell_stays hb3 j2
    have hE3 := hE.of_block (hb3.block _ hE.lt)
    have hW3 := hW2.stays hb3
    have h3 := h2.stays hb3
    have hS3 := hS2.stays hb3
    clear k0' k1' j1 j2 hE hW2 h2 hS2 hb3 bT
    go_upto_if 34 with (fail)
    have hB3 := h3.mbox
    obtain ⟨q0, _, _, _, _⟩ := hB3
    go_cut [11] from 35 to 55 (fun t11 wc => ∃ p : Int × Int, RdIs m t r i p ∧ RowOf wc (w.heap.size + 1 + 1) 101 6 (evf tx t r p.1 p.2) ∧ Below w.heap.size w wc)
    case first =>
      rcases hx with ⟨rfl, hno⟩ | ⟨k, rfl, hk⟩
      · have HN : Hid (∀ j, ¬ AtK (tAt m.x i).w t r j) := hno
        have HR : Hid (∀ x, IsRead m.s t r (tAt m.x i).s x → readP m.s t r (tAt m.x i).s = (x.2, x.1)) := HRd
        clear hno HRd
        have TA : ∀ x, Below w3.heap.size w3 x → x.cell? ⟨B, 0, none⟩ = some (.slice a1 m.s.length cap1) ∧ x.cell? ⟨w.heap.size, 0, none⟩ = some (.int .i64 t) ∧ x.cell? ⟨w.heap.size, 1, none⟩ = some (.int .i64 r) ∧ x.cell? ⟨w.heap.size + 1, 1, none⟩ = some (.int .i64 (tAt m.x i).s) := fun x hx => ⟨cell_stays hx q0, cell_stays hx u0, cell_stays hx u1, cell_stays hx v1⟩
        go_wp2_with fail
        refine region_last (fun x => x.cell? ⟨B, 0, none⟩ = some (.slice a1 m.s.length cap1) ∧ x.cell? ⟨w.heap.size, 0, none⟩ = some (.int .i64 t) ∧ x.cell? ⟨w.heap.size, 1, none⟩ = some (.int .i64 r) ∧ x.cell? ⟨w.heap.size + 1, 1, none⟩ = some (.int .i64 (tAt m.x i).s)) (by kernel_rfl) (by kernel_rfl) (by kernel_rfl) (TA _ (Below.refl _ _).drew) (fun hHeld0 => ?_)
        simp only [List.dropLast, List.length_cons, List.length_nil, Nat.reduceAdd]
        refine takeL (i := 0) (v := ?_) rfl (by kernel_rfl) (by kernel_rfl) (by kernel_rfl) (fun _ _ _ h => h) rfl (by assumption) ?_ ?_
        rotate_left
        · (intro wS hSw; (try dsimp only at hSw); go_simp; try with_reducible rfl)
        (try simp only [Act.put, List.setIfInBounds_toArray, List.set_cons_zero, List.set_cons_succ])
        refine takeL (i := 1) (v := ?_) rfl (by kernel_rfl) (by kernel_rfl) (by kernel_rfl) (fun _ _ _ h => h) rfl (by assumption) ?_ ?_
        rotate_left
        · (intro wS hSw; (try dsimp only at hSw); go_simp; try with_reducible rfl)
        (try simp only [Act.put, List.setIfInBounds_toArray, List.set_cons_zero, List.set_cons_succ])
        refine takeL (i := 2) (v := ?_) rfl (by kernel_rfl) (by kernel_rfl) (by kernel_rfl) (fun _ _ _ h => h) rfl (by assumption) ?_ ?_
        rotate_left
        · (intro wS hSw; (try dsimp only at hSw); go_simp; try with_reducible rfl)
        (try simp only [Act.put, List.setIfInBounds_toArray, List.set_cons_zero, List.set_cons_succ])
        refine takeL (i := 3) (v := ?_) rfl (by kernel_rfl) (by kernel_rfl) (by kernel_rfl) (fun _ _ _ h => h) rfl (by assumption) ?_ ?_
        rotate_left
        · (intro wS hSw; (try dsimp only at hSw); go_simp; try with_reducible rfl)
        (try simp only [Act.put, List.setIfInBounds_toArray, List.set_cons_zero, List.set_cons_succ])
        refine takeL (i := 4) (v := ?_) rfl (by kernel_rfl) (by kernel_rfl) (by kernel_rfl) (fun _ _ _ h => h) rfl (by assumption) ?_ ?_
        rotate_left
        · (intro wS hSw; (try dsimp only at hSw); go_simp; try with_reducible rfl)
        (try simp only [Act.put, List.setIfInBounds_toArray, List.set_cons_zero, List.set_cons_succ])
        refine takeL (i := 5) (v := ?_) rfl (by kernel_rfl) (by kernel_rfl) (by kernel_rfl) (fun _ _ _ h => h) rfl (by assumption) ?_ ?_
        rotate_left
        · (intro wS hSw; (try dsimp only at hSw); go_simp; try with_reducible rfl)
        (try simp only [Act.put, List.setIfInBounds_toArray, List.set_cons_zero, List.set_cons_succ])
        refine takeL (i := 6) (v := ?_) rfl (by kernel_rfl) (by kernel_rfl) (by kernel_rfl) (fun _ _ _ h => h) rfl (by assumption) ?_ ?_
        rotate_left
        · (intro wS hSw; (try dsimp only at hSw); go_simp; try with_reducible rfl)
        (try simp only [Act.put, List.setIfInBounds_toArray, List.set_cons_zero, List.set_cons_succ])
        refine step2L (i := 7) (j := 8) rfl rfl (by kernel_rfl) (fun K hK => ?_) (fun K hK => ?_)
        · rw [if_pos (by rfl)]
          go_simp
          refine (l1read_any _ m.s t r _ _ (hS3.stays (Below.refl _ _).drew)).mono ?_
          rintro e w6 ⟨y, rfl, hy, hb6⟩
          have t6 : Below w3.heap.size w3 w6 := (Below.refl _ _).drew.trans hb6
          refine hK.out _ _ (TA _ t6) (fun hHeld1 => ?_)
          clear hK K hHeld0
          (try simp only [Act.put, List.setIfInBounds_toArray, List.set_cons_zero, List.set_cons_succ])
          refine stepL (i := 8) rfl (by kernel_rfl) (fun K hK => ?_)
          rw [if_pos (by rfl)]
          go_simp
          refine hK.out _ _ (TA _ (t6.alloc t6.size _)) (fun hHeld2 => ?_)
          clear hK K hHeld1
          (try simp only [Act.put, List.setIfInBounds_toArray, List.set_cons_zero, List.set_cons_succ])
          refine wpAnyH_done (by kernel_rfl) ?_ _
          refine lastL (n := 9) rfl rfl ?_
          go_simp
          have HP : Hid (RdIs m t r i (y.2, y.1)) := .inr ⟨HN.out, (HR.out y hy).symm⟩
          have hX := t6.alloc t6.size (Obj.cells #[.int .i64 0, .int .i64 0] 123)
          have hEX := hE3.of_block (hX.block _ hE3.lt)
          have bX := b3.trans (hX.mono (by have := b3.size; omega))
          have hVE : w.heap.size + 1 + 1 < w6.heap.size := by have := hE3.lt; have := t6.size; omega
          have hVE2 : w.heap.size + 1 + 1 ≠ w6.heap.size := by omega
          have hVE3 : w6.heap.size ≠ w.heap.size + 1 + 1 := by omega
          clear hHeld2 TA hy HR HN hb6
          have hE6 := hE3.of_block (t6.block _ hE3.lt)
          have f4 := hE6.cell (show 4 < 6 by omega)
          have f5 := hE6.cell (show 5 < 6 by omega)
          have ff := fun j => hE6.frozen j
          go_wp2
          go_meet
          case rel =>
            have hF := (hE6.set 4 (.int .i64 y.2)).set 5 (.int .i64 y.1)
            refine ⟨(y.2, y.1), HP.out, (hF.of_block (Below.heap_alloc _ _ _ hF.lt)).congr fun j hj => ?_, ?_⟩
            · match j, hj with
              | 0, _ => rfl
              | 1, _ => rfl
              | 2, _ => rfl
              | 3, _ => rfl
              | 4, _ => rfl
              | 5, _ => rfl
            · exact (((b3.trans (t6.mono (by have := b3.size; omega))).setCell (by simp; omega) _).setCell (by simp; omega) _).alloc (by simp only [size_setCell]; have := b3.size; have := t6.size; omega) _
        · rw [if_pos (by rfl)]
          go_simp
          have tV : Below w3.heap.size w3 (w3.drew.alloc (Obj.cells #[.int .i64 0, .int .i64 0] 123)) := (Below.refl _ _).drew.alloc (Nat.le_refl _) _
          have z0 : (w3.drew.alloc (Obj.cells #[.int .i64 0, .int .i64 0] 123)).cell? ⟨w3.heap.size, 0, none⟩ = some (.int .i64 0) := by simp [go_sem]
          have z1 : (w3.drew.alloc (Obj.cells #[.int .i64 0, .int .i64 0] 123)).cell? ⟨w3.heap.size, 1, none⟩ = some (.int .i64 0) := by simp [go_sem]
          have zf : ∀ j, (w3.drew.alloc (Obj.cells #[.int .i64 0, .int .i64 0] 123)).frozen? ⟨w3.heap.size, j, none⟩ = false := fun j => by simp [go_sem]
          have zz : w3.heap.size < (w3.drew.alloc (Obj.cells #[.int .i64 0, .int .i64 0] 123)).heap.size := by simp
          refine hK.out _ _ (TA _ tV) (fun hHeld1 => ?_)
          clear hK K hHeld0
          (try simp only [Act.put, List.setIfInBounds_toArray, List.set_cons_zero, List.set_cons_succ])
          refine stepL (i := 7) rfl (by kernel_rfl) (fun K hK => ?_)
          rw [if_pos (by rfl)]
          go_simp
          refine (l1read_any _ m.s t r _ _ (hS3.stays tV)).mono ?_
          rintro e w6 ⟨y, rfl, hy, hb6⟩
          have hX : Below w3.heap.size w3 w6 := tV.trans (hb6.mono tV.size)
          have g0 := cell_stays hb6 z0
          have g1 := cell_stays hb6 z1
          have gf : ∀ j, w6.frozen? ⟨w3.heap.size, j, none⟩ = false := fun j => by rw [hb6.frozen (by exact zz)]; exact zf j
          have gz : w3.heap.size < w6.heap.size := Nat.lt_of_lt_of_le zz hb6.size
          refine hK.out _ _ (TA _ hX) (fun hHeld2 => ?_)
          clear hK K hHeld1
          (try simp only [Act.put, List.setIfInBounds_toArray, List.set_cons_zero, List.set_cons_succ])
          refine wpAnyH_done (by kernel_rfl) ?_ _
          refine lastL (n := 9) rfl rfl ?_
          go_simp
          have HP : Hid (RdIs m t r i (y.2, y.1)) := .inr ⟨HN.out, (HR.out y hy).symm⟩
          have hEX := hE3.of_block (hX.block _ hE3.lt)
          have bX := b3.trans (hX.mono (by have := b3.size; omega))
          have hVE : w.heap.size + 1 + 1 < w3.heap.size := hE3.lt
          have hVE2 : w.heap.size + 1 + 1 ≠ w3.heap.size := by omega
          have hVE3 : w3.heap.size ≠ w.heap.size + 1 + 1 := by omega
          clear hHeld2 TA hy HR HN hb6 z0 z1 zf zz tV
          have f4 := hEX.cell (show 4 < 6 by omega)
          have f5 := hEX.cell (show 5 < 6 by omega)
          have ff := fun j => hEX.frozen j
          go_wp2
          go_meet
          case rel =>
            refine ⟨(y.2, y.1), HP.out, (((hEX.of_block ?_).set 4 (.int .i64 y.2)).set 5 (.int .i64 y.1)).congr fun j hj => ?_, ?_⟩
            · rw [Below.heap_setCell _ _ _ _ hVE2, Below.heap_setCell _ _ _ _ hVE2]
            · match j, hj with
              | 0, _ => rfl
              | 1, _ => rfl
              | 2, _ => rfl
              | 3, _ => rfl
              | 4, _ => rfl
              | 5, _ => rfl
            · exact (((bX.setCell (by simp; omega) _).setCell (by simp; omega) _).setCell (by simp; omega) _).setCell (by simp; omega) _
      · have hkl := hk.1
        have HP : Hid (RdIs m t r i ((rAt (tAt m.x i).w k).v, -1)) := .inl ⟨k, hk, rfl⟩
        obtain ⟨wa', wc', e', hmw, hcw⟩ := hW3
        injection e' with e1 e2 e3
        subst e1 e3
        clear e2
        obtain ⟨bw, offw, rfl, _, _, hcw2⟩ := hcw (by omega)
        obtain ⟨_, _, c9⟩ := hcw2 k hkl
        have g0 : (0 : Int) ≤ (k : Int) := by omega
        have g1 : (k : Int) < ((tAt m.x i).w.length : Int) := by omega
        unfold maxLen at hmw
        clear hk hcw hcw2 HRd
        have f4 := hE3.cell (show 4 < 6 by omega)
        have ff := hE3.frozen 4
        go_wp2
        go_meet
        case rel =>
          refine ⟨((rAt (tAt m.x i).w k).v, -1), HP.out, (hE3.set 4 (.int .i64 (rAt (tAt m.x i).w k).v)).congr fun j hj => ?_, b3.setCell (by simp; omega) _⟩
          match j, hj with
          | 0, _ => rfl
          | 1, _ => rfl
          | 2, _ => rfl
          | 3, _ => rfl
          | 4, _ => rfl
          | 5, _ => rfl
    case rest =>
      obtain ⟨p, hp, hE5, b5⟩ := hcut
      have HP : Hid (RdIs m t r i p) := hp
      clear hp q0 u0 u1 v1 v2 hE3 hW3 h3 hS3 b3 hx HRd hz3
      have h5 := h.stays b5
      have hz5 := b5.size
      have e0 := hE5.cell (show 0 < 6 by omega)
      have e1 := hE5.cell (show 1 < 6 by omega)
      have e2 := hE5.cell (show 2 < 6 by omega)
      have e3 := hE5.cell (show 3 < 6 by omega)
      have e4 := hE5.cell (show 4 < 6 by omega)
      have e5 := hE5.cell (show 5 < 6 by omega)
      have eL := hE5.lt
      simp only [evf] at e0 e1 e2 e3 e4 e5
      clear hE5
      go_wp2_with fail
      obtain ⟨c4, _⟩ := h5.cell (j := 4) (by omega)
      simp only [bxf] at c4
      obtain ⟨ti, hI, hz0, hz1', hz2⟩ := info_parts infoEv
      have hzW : base ≤ wc.heap.size := by have := h5.box.lt; omega
      have bD := (Below.refl wc.heap.size wc).drew
      refine region_last (fun x => x.cell? ⟨B, 4, none⟩ = some (.slice a3 m.h.length cap3) ∧ x.cell? ⟨w.heap.size + 1 + 1, 0, none⟩ = some (.int .i64 2) ∧ x.cell? ⟨w.heap.size + 1 + 1, 1, none⟩ = some (.int .i64 tx) ∧ x.cell? ⟨w.heap.size + 1 + 1, 2, none⟩ = some (.int .i64 t) ∧ x.cell? ⟨w.heap.size + 1 + 1, 3, none⟩ = some (.int .i64 r) ∧ x.cell? ⟨w.heap.size + 1 + 1, 4, none⟩ = some (.int .i64 p.1) ∧ x.cell? ⟨w.heap.size + 1 + 1, 5, none⟩ = some (.int .i64 p.2)) (by kernel_rfl) (by kernel_rfl) (by kernel_rfl) ⟨cell_stays bD c4, cell_stays bD e0, cell_stays bD e1, cell_stays bD e2, cell_stays bD e3, cell_stays bD e4, cell_stays bD e5⟩ (fun hHeld0 => ?_)
      simp only [List.dropLast, List.length_cons, List.length_nil, Nat.reduceAdd]
      refine takeL (i := 0) (v := ?_) rfl (by kernel_rfl) (by kernel_rfl) (by kernel_rfl) (fun _ _ _ h => h) rfl (by assumption) ?_ ?_
      rotate_left
      · (intro wS hSw; (try dsimp only at hSw); go_simp; try with_reducible rfl)
      (try simp only [Act.put, List.setIfInBounds_toArray, List.set_cons_zero, List.set_cons_succ])
      refine takeL (i := 1) (v := ?_) rfl (by kernel_rfl) (by kernel_rfl) (by kernel_rfl) (fun _ _ _ h => h) rfl (by assumption) ?_ ?_
      rotate_left
      · (intro wS hSw; (try dsimp only at hSw); go_simp; try with_reducible rfl)
      (try simp only [Act.put, List.setIfInBounds_toArray, List.set_cons_zero, List.set_cons_succ])
      refine takeL (i := 2) (v := ?_) rfl (by kernel_rfl) (by kernel_rfl) (by kernel_rfl) (fun _ _ _ h => h) rfl (by assumption) ?_ ?_
      rotate_left
      · (intro wS hSw; (try dsimp only at hSw); go_simp; try with_reducible rfl)
      (try simp only [Act.put, List.setIfInBounds_toArray, List.set_cons_zero, List.set_cons_succ])
      refine takeL (i := 3) (v := ?_) rfl (by kernel_rfl) (by kernel_rfl) (by kernel_rfl) (fun _ _ _ h => h) rfl (by assumption) ?_ ?_
      rotate_left
      · (intro wS hSw; (try dsimp only at hSw); go_simp; try with_reducible rfl)
      (try simp only [Act.put, List.setIfInBounds_toArray, List.set_cons_zero, List.set_cons_succ])
      refine takeL (i := 4) (v := ?_) rfl (by kernel_rfl) (by kernel_rfl) (by kernel_rfl) (fun _ _ _ h => h) rfl (by assumption) ?_ ?_
      rotate_left
      · (intro wS hSw; (try dsimp only at hSw); go_simp; try with_reducible rfl)
      (try simp only [Act.put, List.setIfInBounds_toArray, List.set_cons_zero, List.set_cons_succ])
      refine takeL (i := 5) (v := ?_) rfl (by kernel_rfl) (by kernel_rfl) (by kernel_rfl) (fun _ _ _ h => h) rfl (by assumption) ?_ ?_
      rotate_left
      · (intro wS hSw; (try dsimp only at hSw); go_simp; try with_reducible rfl)
      (try simp only [Act.put, List.setIfInBounds_toArray, List.set_cons_zero, List.set_cons_succ])
      refine stepL (i := 6) rfl (by kernel_rfl) (fun K hK => ?_)
      rw [if_pos (by rfl)]
      go_simp
      have bA := bD.alloc (by exact Nat.le_refl _) (Obj.cells #[.int .i64 2, .int .i64 tx, .int .i64 t, .int .i64 r, .int .i64 p.1, .int .i64 p.2] 101)
      refine hK.out _ _ ⟨cell_stays bA c4, cell_stays bA e0, cell_stays bA e1, cell_stays bA e2, cell_stays bA e3, cell_stays bA e4, cell_stays bA e5⟩ (fun hHeld1 => ?_)
      clear hK K hHeld0
      (try simp only [Act.put, List.setIfInBounds_toArray, List.set_cons_zero, List.set_cons_succ])
      refine stepL (i := 7) rfl (by kernel_rfl) (fun K hK => ?_)
      have hXA := owns_keepM h5.own.h fun g hg hl => bA.block g hl
      refine step_append_lies _ (by rfl) _ _ _ (by rfl) base 101 ti _ 6 48 Tryz.underlying34 hI hz0 hz1' hz2 rfl (by omega) (.slice a3 m.h.length cap3) m.h.length (hexa m.h) (by rfl) hXA ⟨wc.heap.size, 0, none⟩ 1 1 [.int .i64 2, .int .i64 tx, .int .i64 t, .int .i64 r, .int .i64 p.1, .int .i64 p.2] (by rfl) (by rfl) (newsM wc.drew _ _) (by intro u hu; simp at hu; rcases hu with rfl | rfl | rfl | rfl | rfl | rfl <;> rfl) (by omega) (by unfold maxLen; omega) (by omega) (by simp; omega) (wc.heap.size + 1) (by simp) ?_
      intro gg cap5 w5 hown5 hgrow5 hat5 hlt5
      have hnB := h5.apart 1 (by omega)
      have hnE := hnK (w.heap.size + 1 + 1) (by omega)
      have k5 : ∀ b, b < wc.heap.size → (Value.slice a3 m.h.length cap3).ownBlock ≠ some b → ∀ (o : Nat) (u : Value), wc.cell? ⟨b, o, none⟩ = some u → w5.cell? ⟨b, o, none⟩ = some u := fun b hb hne o u hu => cell_same (hgrow5.block b (Nat.lt_of_lt_of_le hb (by have := bA.size; exact this)) (fun e => hne e.symm)) (cell_stays bA hu)
      have e4' := k5 _ eL hnE _ _ e4
      refine hK.out _ _ ⟨k5 B h5.box.lt hnB _ _ c4, k5 _ eL hnE _ _ e0, k5 _ eL hnE _ _ e1, k5 _ eL hnE _ _ e2, k5 _ eL hnE _ _ e3, k5 _ eL hnE _ _ e4, k5 _ eL hnE _ _ e5⟩ (fun hHeld2 => ?_)
      clear hK K hHeld1
      (try simp only [Act.put, List.setIfInBounds_toArray, List.set_cons_zero, List.set_cons_succ])
      refine takeL (i := 8) (v := ?_) rfl (by kernel_rfl) (by kernel_rfl) (by kernel_rfl) (fun _ _ _ h => h) rfl (by assumption) ?_ ?_
      rotate_left
      · (intro wS hSw; (try dsimp only at hSw); go_simp; try with_reducible rfl)
      (try simp only [Act.put, List.setIfInBounds_toArray, List.set_cons_zero, List.set_cons_succ])
      refine takeL (i := 9) (v := ?_) rfl (by kernel_rfl) (by kernel_rfl) (by kernel_rfl) (fun _ _ _ h => h) rfl (by assumption) ?_ ?_
      rotate_left
      · (intro wS hSw; (try dsimp only at hSw); go_simp; try with_reducible rfl)
      (try simp only [Act.put, List.setIfInBounds_toArray, List.set_cons_zero, List.set_cons_succ])
      have hB5 := h5.box.of_block (show w5.heap[B]? = wc.heap[B]? from (hgrow5.block B (Nat.lt_of_lt_of_le h5.box.lt (by have := bA.size; exact this)) (fun e => hnB e.symm)).trans (bA.block B h5.box.lt))
      have q4 := hB5.cell (show 4 < 5 by omega)
      have qf := hB5.frozen 4
      obtain ⟨P7, bP7⟩ := h5.pushEv (x := ⟨2, tx, t, r, p.1, p.2⟩) bA hgrow5 hown5 (by rcases hat5 with e | e; exact .inl e; exact .inr (by omega))
      refine wpAnyH_done (by kernel_rfl) ?_ _
      refine lastL (n := 10) rfl rfl ?_
      go_simp
      have b7 := (b5.mono (by omega)).trans bP7
      have hBE : B ≠ w.heap.size + 1 + 1 := by omega
      have hBE2 : w.heap.size + 1 + 1 ≠ B := by omega
      clear hHeld2 q4 qf hB5 k5 hnB hlt5 hat5 hgrow5 hown5 hXA bA bD hI hz0 hz1' hz2 c4 h5 e0 e1 e2 e3 e4 e5 hnE
      go_wp2
      go_ret2
      exact ⟨b7, .inl ⟨HH.out, p, _, HP.out, rfl, P7⟩⟩
end Go.Proofs.YtmecbppblbmchaaGreatDoor
