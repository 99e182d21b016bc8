import Derived.Test.YtmecbppblbmchaaGreatDoorM3
import Derived.Test.YtmecbppblbmchaaGreatDoorM1
import Derived.Test.YtmecbppblbmchaaGreatDoorTold
/- The program's Begin. -/
namespace Go.Proofs.YtmecbppblbmchaaGreatDoor
open Go.ChangeShapes Go.WideShapes Go.ChangeAt Go.RowKit Go.Sort
set_option linter.unusedVariables false
set_option maxRecDepth 100000
attribute [local go_sem ↓] Go.wp_at_zero Go.wp_at_succ

def md0 : Md := ⟨[], 0, 0, [], []⟩
/-- A state that is nothing, owned. -/
theorem OwnM.none (base : Nat) (w : World) (hb : base ≤ w.heap.size) : OwnM base w base base (.slice none 0 0) (.slice none 0 0) (.slice none 0 0) md0 (fun _ => nilV) where
  s := .inl ⟨rfl, rfl⟩
  sb := ⟨Nat.le_refl _, Nat.le_refl _, hb⟩
  x := World.ownsRow_nil _ _ _ _
  xw := fun i hi => absurd hi (Nat.not_lt_zero _)
  h := World.ownsRow_nil _ _ _ _
  far := fun a ha g hg => by
    match a, ha with
    | 0, _ => simp [mv, Value.ownBlock] at hg
    | 1, _ => simp [mv, Value.ownBlock] at hg
    | i + 2, hi => exact absurd hi (by simp [md0])
  apart := fun a b ha hb hab g hg => by
    match a, ha with
    | 0, _ => simp [mv, Value.ownBlock] at hg
    | 1, _ => simp [mv, Value.ownBlock] at hg
    | i + 2, hi => exact absurd hi (by simp [md0])
theorem OwnM.mono {base base' s0 s1 : Nat} {w : World} {vs vt ve : Value} {m : Md} {wv : Nat → Value} (h : OwnM base w s0 s1 vs vt ve m wv) (hb : base' ≤ base) : OwnM base' w s0 s1 vs vt ve m wv :=
  ⟨h.s, ⟨Nat.le_trans hb h.sb.1, h.sb.2⟩, World.ownsRow.mono h.x hb, fun i hi => World.ownsRow.mono (h.xw i hi) hb, World.ownsRow.mono h.h hb, h.far, h.apart⟩
theorem zeroBox (w : World) (o : Obj) : RowOf ((w.alloc o).alloc (Obj.cells #[Value.slice none 0 0, .int .i64 0, .int .i64 0, Value.slice none 0 0, Value.slice none 0 0] 36)) (w.heap.size + 1) 36 5 (bxf nilV 0 0 nilV nilV) := by
  refine ⟨#[Value.slice none 0 0, .int .i64 0, .int .i64 0, Value.slice none 0 0, Value.slice none 0 0], ?_, by simp, fun j hj => ?_⟩
  · have := Deep.blk_alloc_new (w.alloc o) (Obj.cells #[Value.slice none 0 0, .int .i64 0, .int .i64 0, Value.slice none 0 0, Value.slice none 0 0] 36)
    simpa using this
  · match j, hj with
    | 0, _ => rfl
    | 1, _ => rfl
    | 2, _ => rfl
    | 3, _ => rfl
    | 4, _ => rfl
/-- An answer that is a state of the call's own. -/
def AnsM (base : Nat) (w : World) (v : Value) (x : Md) : Prop := ∃ s0 s1 vs vt ve wv, v = .agg #[vs, .int .i64 x.c, .int .i64 x.n, vt, ve] ∧ OwnM base w s0 s1 vs vt ve x wv
theorem AnsM.stays {base : Nat} {w w' : World} {v : Value} {x : Md} (h : AnsM base w v x) (hb : Below w.heap.size w w') : AnsM base w' v x := by
  obtain ⟨s0, s1, vs, vt, ve, wv, e, ho⟩ := h
  exact ⟨s0, s1, vs, vt, ve, wv, e, ho.stays hb⟩
/-- What Begin comes to. -/
def RB (m x : Md) (tx code : Int) : Prop := (mgrOk m ∧ roomB m ∧ x = begM m ∧ tx = m.n ∧ code = 0) ∨ (¬ mgrOk m ∧ x = md0 ∧ tx = 0 ∧ code = 1) ∨ (mgrOk m ∧ ¬ roomB m ∧ x = md0 ∧ tx = 0 ∧ code = 2)
theorem RB.one {m x x' : Md} {tx tx' code code' : Int} (h : RB m x tx code) (h' : RB m x' tx' code') : x = x' ∧ tx = tx' ∧ code = code' := by
  rcases h with ⟨a, b, rfl, rfl, rfl⟩ | ⟨a, rfl, rfl, rfl⟩ | ⟨a, b, rfl, rfl, rfl⟩ <;> rcases h' with ⟨a', b', rfl, rfl, rfl⟩ | ⟨a', rfl, rfl, rfl⟩ | ⟨a', b', rfl, rfl, rfl⟩ <;>
    first
      | exact ⟨rfl, rfl, rfl⟩
      | (exfalso; first | exact a' a | exact a a' | exact b' b | exact b b')
theorem SmallM.room {m : Md} (h : SmallM m) : SmallM' m := ⟨h.s, by have := h.x; omega, fun i hi => by have := h.w i hi; omega, by have := h.h; omega⟩

theorem told_ptr (base B s0 s1 : Nat) (vs vt ve : Value) (m : Md) (wv : Nat → Value) (w : World) (h : PtrM base w B s0 s1 vs vt ve m wv) :
    Calls Tryz.prog 35 #[.pointer (some ⟨B, 0, none⟩), .nilIface] w fun e w' => e = .returned (.tuple #[.agg #[vs, .int .i64 m.c, .int .i64 m.n, vt, ve], .int .i64 0]) ∧ Below w.heap.size w w' := by
  obtain ⟨a2, c2, rfl⟩ := owns_sliceM h.own.x
  obtain ⟨a3, c3, rfl⟩ := owns_sliceM h.own.h
  obtain ⟨a1, n1, c1, rfl⟩ : ∃ a n c, vs = .slice a n c := by
    rcases h.own.s with ⟨rfl, _⟩ | ⟨b, Bs, cap, rfl, _⟩
    · exact ⟨_, _, _, rfl⟩
    · exact ⟨_, _, _, rfl⟩
  exact told_ok B a1 a2 a3 n1 m.x.length m.h.length c1 c2 c3 m.c m.n w h.mbox

/-- What a call answers with is written into its own variable: what it owns stays. -/
theorem boxed_keep (w : World) (R : Nat) (u0 u1 u2 u3 u4 : Value) (o : Obj) : w.heap.size ≤ ((((((w.setCell ⟨R, 0, none⟩ u0).setCell ⟨R, 1, none⟩ u1).setCell ⟨R, 2, none⟩ u2).setCell ⟨R, 3, none⟩ u3).setCell ⟨R, 4, none⟩ u4).alloc o).heap.size ∧
    ∀ k, k ≠ R → k < w.heap.size → ((((((w.setCell ⟨R, 0, none⟩ u0).setCell ⟨R, 1, none⟩ u1).setCell ⟨R, 2, none⟩ u2).setCell ⟨R, 3, none⟩ u3).setCell ⟨R, 4, none⟩ u4).alloc o).heap[k]? = w.heap[k]? := by
  have hz : (((((w.setCell ⟨R, 0, none⟩ u0).setCell ⟨R, 1, none⟩ u1).setCell ⟨R, 2, none⟩ u2).setCell ⟨R, 3, none⟩ u3).setCell ⟨R, 4, none⟩ u4).heap.size = w.heap.size := by simp only [size_setCell]
  refine ⟨by rw [World.size_alloc, hz]; omega, fun k hk hl => ?_⟩
  rw [(below_alM (((((w.setCell ⟨R, 0, none⟩ u0).setCell ⟨R, 1, none⟩ u1).setCell ⟨R, 2, none⟩ u2).setCell ⟨R, 3, none⟩ u3).setCell ⟨R, 4, none⟩ u4) o).block k (by rw [hz]; exact hl)]
  repeat rw [Below.heap_setCell _ _ _ _ (by exact hk)]

set_option maxHeartbeats 4000000 in
theorem implBegin_any (vs vt ve : Value) (m : Md) (w : World) {lo hi : Nat} (h : MAt lo hi w vs vt ve m) (hn : SmallM m) (hL : Laid w) :
    Calls Tryz.prog 11 #[.agg #[vs, .int .i64 m.c, .int .i64 m.n, vt, ve]] w fun e w' => ∃ v x tx code, e = .returned (.tuple #[v, .int .i64 tx, .int .i64 code]) ∧ AnsM w.heap.size w' v x ∧ RB m x tx code ∧ Below w.heap.size w w' := by
  obtain ⟨a1, cap1, hv1⟩ : ∃ a cap, vs = .slice a m.s.length cap := by obtain ⟨a, cap, h1, _⟩ := h.s; exact ⟨a, cap, h1⟩
  obtain ⟨a2, cap2, hv2⟩ : ∃ a cap, vt = .slice a m.x.length cap := by obtain ⟨a, cap, h1, _⟩ := h.x; exact ⟨a, cap, h1⟩
  obtain ⟨a3, cap3, hv3⟩ : ∃ a cap, ve = .slice a m.h.length cap := by obtain ⟨a, cap, h1, _⟩ := h.h; exact ⟨a, cap, h1⟩
  subst hv1 hv2 hv3
  have b0 : Below w.heap.size w ((w.alloc (Obj.cells #[Value.slice a1 m.s.length cap1, .int .i64 m.c, .int .i64 m.n, Value.slice a2 m.x.length cap2, Value.slice a3 m.h.length cap3] 36)).alloc (Obj.cells #[Value.slice none 0 0, .int .i64 0, .int .i64 0, Value.slice none 0 0, Value.slice none 0 0] 36)) := ((Below.refl _ _).alloc (Nat.le_refl _) _).alloc (by simp) _
  have r0 := zeroBox w (Obj.cells #[Value.slice a1 m.s.length cap1, .int .i64 m.c, .int .i64 m.n, Value.slice a2 m.x.length cap2, Value.slice a3 m.h.length cap3] 36)
  have hz0 : w.heap.size + 1 < ((w.alloc (Obj.cells #[Value.slice a1 m.s.length cap1, .int .i64 m.c, .int .i64 m.n, Value.slice a2 m.x.length cap2, Value.slice a3 m.h.length cap3] 36)).alloc (Obj.cells #[Value.slice none 0 0, .int .i64 0, .int .i64 0, Value.slice none 0 0, Value.slice none 0 0] 36)).heap.size := by simp
  go_enter Tryz.func11, Tryz.ntmps11
  go_wp2_with fail
  generalize (w.alloc (Obj.cells #[Value.slice a1 m.s.length cap1, .int .i64 m.c, .int .i64 m.n, Value.slice a2 m.x.length cap2, Value.slice a3 m.h.length cap3] 36)).alloc (Obj.cells #[Value.slice none 0 0, .int .i64 0, .int .i64 0, Value.slice none 0 0, Value.slice none 0 0] 36) = W0 at *
  refine Calls.mono (copyMgr_own _ _ _ m _ (h.stays b0) hn) ?_
  rintro e w1 ⟨B, s0, s1, vs1, vt1, ve1, wv1, rfl, P1, hb1⟩
  have b1 := b0.trans (hb1.mono b0.size)
  have r1 := r0.of_block (hb1.block _ hz0)
  have hz1 := hb1.size
  clear r0 hb1
  go_wp2_with fail
  refine Calls.mono (begin_any _ B s0 s1 vs1 vt1 ve1 m wv1 _ P1 hn.room) ?_
  rintro e w2 ⟨hb2, hcase⟩
  have b2 := b1.trans (hb2.mono (by omega))
  have r2 := r1.of_block (hb2.block _ hz0)
  have hz2 := hb2.size
  have L2 := hL.stays b2
  clear r1 b1
  rcases hcase with ⟨hok, hroom, rfl, vt2, ve2, wv2, P2⟩ | ⟨hno, rfl⟩ | ⟨hok, hno, rfl⟩
  · have HB : Hid (RB m (begM m) m.n 0) := .inl ⟨hok, hroom, rfl, rfl, rfl⟩
    clear hok hroom
    go_wp2_with fail
    refine Calls.mono (told_ptr _ B s0 s1 vs1 vt2 ve2 (begM m) wv2 _ P2) ?_
    rintro e w3 ⟨rfl, hb3⟩
    have r3 := r2.of_block (hb3.block _ (by omega))
    have O3 := P2.own.stays hb3
    have b3 := b2.trans (hb3.mono b2.size)
    obtain ⟨a2, c2, rfl⟩ := owns_sliceM O3.x
    obtain ⟨a3, c3, rfl⟩ := owns_sliceM O3.h
    obtain ⟨a1, n1, c1, rfl⟩ : ∃ a n c, vs1 = .slice a n c := by
      rcases O3.s with ⟨rfl, _⟩ | ⟨b, Bs, cap, rfl, _⟩
      · exact ⟨_, _, _, rfl⟩
      · exact ⟨_, _, _, rfl⟩
    clear P1 P2 hb3 r2 L2 hL
    have c0 := r3.cell (show 0 < 5 by omega)
    have c1' := r3.cell (show 1 < 5 by omega)
    have c2' := r3.cell (show 2 < 5 by omega)
    have c3' := r3.cell (show 3 < 5 by omega)
    have c4' := r3.cell (show 4 < 5 by omega)
    have f0 := r3.frozen 0
    have f1 := r3.frozen 1
    have f2 := r3.frozen 2
    have f3 := r3.frozen 3
    have f4 := r3.frozen 4
    have hz3 := r3.lt
    go_wp2
    obtain ⟨kz, kk⟩ := boxed_keep w3 (w.heap.size + 1) (.slice a1 n1 c1) (.int .i64 (begM m).c) (.int .i64 (begM m).n) (.slice a2 (begM m).x.length c2) (.slice a3 (begM m).h.length c3) (Obj.cells #[Value.slice a1 n1 c1, .int .i64 (begM m).c, .int .i64 (begM m).n, Value.slice a2 (begM m).x.length c2, Value.slice a3 (begM m).h.length c3] 36)
    have OF := (O3.keep (fun k h1 h2 => kk k (by omega) h2) kz).mono (base' := w.heap.size) (by omega)
    refine bodyPost_ret (v := .tuple #[.agg #[.slice a1 n1 c1, .int .i64 (begM m).c, .int .i64 (begM m).n, .slice a2 (begM m).x.length c2, .slice a3 (begM m).h.length c3], .int .i64 m.n, .int .i64 0]) (by simp [results, Tryz.results11, go_sem, c0, c1', c2', c3', c4', hz3]) rfl ⟨_, begM m, _, _, rfl, ⟨s0, s1, _, _, _, _, rfl, OF⟩, HB.out, ?_⟩
    repeat (first | exact b3 | refine Below.alloc ?_ (by simp only [size_setCell]; omega) _ | refine Below.setCell ?_ (by simp) _)
  · have HB : Hid (RB m md0 0 1) := .inr (.inl ⟨hno, rfl, rfl, rfl⟩)
    clear hno P1
    simp only [refE]
    go_wp2_with fail
    refine Calls.mono (told_err _ 1 _ L2) ?_
    rintro e w3 ⟨rfl, hb3⟩
    have r3 := r2.of_block (hb3.block _ (by omega))
    have b3 := b2.trans (hb3.mono b2.size)
    clear hb3 r2 L2 hL
    have c0 := r3.cell (show 0 < 5 by omega)
    have c1' := r3.cell (show 1 < 5 by omega)
    have c2' := r3.cell (show 2 < 5 by omega)
    have c3' := r3.cell (show 3 < 5 by omega)
    have c4' := r3.cell (show 4 < 5 by omega)
    have f0 := r3.frozen 0
    have f1 := r3.frozen 1
    have f2 := r3.frozen 2
    have f3 := r3.frozen 3
    have f4 := r3.frozen 4
    have hz3 := r3.lt
    go_wp2
    obtain ⟨kz, kk⟩ := boxed_keep w3 (w.heap.size + 1) (.slice none 0 0) (.int .i64 0) (.int .i64 0) (.slice none 0 0) (.slice none 0 0) (Obj.cells #[Value.slice none 0 0, .int .i64 0, .int .i64 0, Value.slice none 0 0, Value.slice none 0 0] 36)
    have OF := OwnM.none w.heap.size ((((((w3.setCell ⟨w.heap.size + 1, 0, none⟩ (.slice none 0 0)).setCell ⟨w.heap.size + 1, 1, none⟩ (.int .i64 0)).setCell ⟨w.heap.size + 1, 2, none⟩ (.int .i64 0)).setCell ⟨w.heap.size + 1, 3, none⟩ (.slice none 0 0)).setCell ⟨w.heap.size + 1, 4, none⟩ (.slice none 0 0)).alloc (Obj.cells #[Value.slice none 0 0, .int .i64 0, .int .i64 0, Value.slice none 0 0, Value.slice none 0 0] 36)) (by have := b3.size; omega)
    refine bodyPost_ret (v := .tuple #[.agg #[.slice none 0 0, .int .i64 0, .int .i64 0, .slice none 0 0, .slice none 0 0], .int .i64 0, .int .i64 1]) (by simp [results, Tryz.results11, go_sem, c0, c1', c2', c3', c4', hz3]) rfl ⟨_, md0, _, _, rfl, ⟨_, _, _, _, _, _, rfl, OF⟩, HB.out, ?_⟩
    repeat (first | exact b3 | refine Below.alloc ?_ (by simp only [size_setCell]; omega) _ | refine Below.setCell ?_ (by simp) _)
  · have HB : Hid (RB m md0 0 2) := .inr (.inr ⟨hok, hno, rfl, rfl, rfl⟩)
    clear hok hno P1
    simp only [refE]
    go_wp2_with fail
    refine Calls.mono (told_err _ 2 _ L2) ?_
    rintro e w3 ⟨rfl, hb3⟩
    have r3 := r2.of_block (hb3.block _ (by omega))
    have b3 := b2.trans (hb3.mono b2.size)
    clear hb3 r2 L2 hL
    have c0 := r3.cell (show 0 < 5 by omega)
    have c1' := r3.cell (show 1 < 5 by omega)
    have c2' := r3.cell (show 2 < 5 by omega)
    have c3' := r3.cell (show 3 < 5 by omega)
    have c4' := r3.cell (show 4 < 5 by omega)
    have f0 := r3.frozen 0
    have f1 := r3.frozen 1
    have f2 := r3.frozen 2
    have f3 := r3.frozen 3
    have f4 := r3.frozen 4
    have hz3 := r3.lt
    go_wp2
    obtain ⟨kz, kk⟩ := boxed_keep w3 (w.heap.size + 1) (.slice none 0 0) (.int .i64 0) (.int .i64 0) (.slice none 0 0) (.slice none 0 0) (Obj.cells #[Value.slice none 0 0, .int .i64 0, .int .i64 0, Value.slice none 0 0, Value.slice none 0 0] 36)
    have OF := OwnM.none w.heap.size ((((((w3.setCell ⟨w.heap.size + 1, 0, none⟩ (.slice none 0 0)).setCell ⟨w.heap.size + 1, 1, none⟩ (.int .i64 0)).setCell ⟨w.heap.size + 1, 2, none⟩ (.int .i64 0)).setCell ⟨w.heap.size + 1, 3, none⟩ (.slice none 0 0)).setCell ⟨w.heap.size + 1, 4, none⟩ (.slice none 0 0)).alloc (Obj.cells #[Value.slice none 0 0, .int .i64 0, .int .i64 0, Value.slice none 0 0, Value.slice none 0 0] 36)) (by have := b3.size; omega)
    refine bodyPost_ret (v := .tuple #[.agg #[.slice none 0 0, .int .i64 0, .int .i64 0, .slice none 0 0, .slice none 0 0], .int .i64 0, .int .i64 2]) (by simp [results, Tryz.results11, go_sem, c0, c1', c2', c3', c4', hz3]) rfl ⟨_, md0, _, _, rfl, ⟨_, _, _, _, _, _, rfl, OF⟩, HB.out, ?_⟩
    repeat (first | exact b3 | refine Below.alloc ?_ (by simp only [size_setCell]; omega) _ | refine Below.setCell ?_ (by simp) _)
end Go.Proofs.YtmecbppblbmchaaGreatDoor
