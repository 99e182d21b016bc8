import Derived.Test.YtmecbppblbmchaaGreatDoorM6
import Derived.Test.YtmecbppblbmchaaGreatDoorM7
import Derived.Test.YtmecbppblbmchaaGreatDoorMSpec2
/- The specification's Begin. -/
namespace Go.Proofs.YtmecbppblbmchaaGreatDoor
open Go.ChangeShapes Go.WideShapes Go.ChangeAt Go.RowKit Go.Sort
set_option linter.unusedVariables false
set_option maxRecDepth 100000
attribute [local go_sem ↓] Go.wp_at_zero Go.wp_at_succ

theorem PtrM.ofOwn {base s0 s1 : Nat} {w : World} {vs vt ve : Value} {m : Md} {wv : Nat → Value} (h : OwnM base w s0 s1 vs vt ve m wv) : PtrM base (w.alloc (Obj.cells #[vs, .int .i64 m.c, .int .i64 m.n, vt, ve] 36)) w.heap.size s0 s1 vs vt ve m wv := by
  refine ⟨h.stays (below_alM _ _), ⟨_, Deep.blk_alloc_new _ _, by simp, fun j hj => ?_⟩, by have := h.sb; omega, by have := h.sb; omega, fun a ha e => ?_⟩
  · match j, hj with
    | 0, _ => rfl
    | 1, _ => rfl
    | 2, _ => rfl
    | 3, _ => rfl
    | 4, _ => rfl
  · have := h.lt a ha _ e
    omega

set_option maxHeartbeats 4000000 in
theorem specBegin_any (vs vt ve : Value) (m : Md) (w : World) {lo hi : Nat} (h : MAt lo hi w vs vt ve m) (hn : SmallM m) :
    Calls Tryz.prog 9 #[.agg #[vs, .int .i64 m.c, .int .i64 m.n, vt, ve]] w fun e w' => ∃ v x tx code, e = .returned (.tuple #[v, .int .i64 tx, .int .i64 code]) ∧ AnsM w.heap.size w' v x ∧ RB m x tx code ∧ Below w.heap.size w w' := by
  obtain ⟨a1, cap1, hv1⟩ : ∃ a cap, vs = .slice a m.s.length cap := by obtain ⟨a, cap, h1, _⟩ := h.s; exact ⟨a, cap, h1⟩
  obtain ⟨a2, cap2, hv2⟩ : ∃ a cap, vt = .slice a m.x.length cap := by obtain ⟨a, cap, h1, _⟩ := h.x; exact ⟨a, cap, h1⟩
  obtain ⟨a3, cap3, hv3⟩ : ∃ a cap, ve = .slice a m.h.length cap := by obtain ⟨a, cap, h1, _⟩ := h.h; exact ⟨a, cap, h1⟩
  subst hv1 hv2 hv3
  have b0 : Below w.heap.size w ((w.alloc (Obj.cells #[Value.slice a1 m.s.length cap1, .int .i64 m.c, .int .i64 m.n, Value.slice a2 m.x.length cap2, Value.slice a3 m.h.length cap3] 36)).alloc (Obj.cells #[Value.slice none 0 0, .int .i64 0, .int .i64 0, Value.slice none 0 0, Value.slice none 0 0] 36)) := ((Below.refl _ _).alloc (Nat.le_refl _) _).alloc (by simp) _
  have r0 := zeroBox w (Obj.cells #[Value.slice a1 m.s.length cap1, .int .i64 m.c, .int .i64 m.n, Value.slice a2 m.x.length cap2, Value.slice a3 m.h.length cap3] 36)
  have hz0 : w.heap.size + 1 < ((w.alloc (Obj.cells #[Value.slice a1 m.s.length cap1, .int .i64 m.c, .int .i64 m.n, Value.slice a2 m.x.length cap2, Value.slice a3 m.h.length cap3] 36)).alloc (Obj.cells #[Value.slice none 0 0, .int .i64 0, .int .i64 0, Value.slice none 0 0, Value.slice none 0 0] 36)).heap.size := by simp
  have x0 : ((w.alloc (Obj.cells #[Value.slice a1 m.s.length cap1, .int .i64 m.c, .int .i64 m.n, Value.slice a2 m.x.length cap2, Value.slice a3 m.h.length cap3] 36)).alloc (Obj.cells #[Value.slice none 0 0, .int .i64 0, .int .i64 0, Value.slice none 0 0, Value.slice none 0 0] 36)).cell? ⟨w.heap.size, 0, none⟩ = some (.slice a1 m.s.length cap1) := by simp [go_sem]
  have x1 : ((w.alloc (Obj.cells #[Value.slice a1 m.s.length cap1, .int .i64 m.c, .int .i64 m.n, Value.slice a2 m.x.length cap2, Value.slice a3 m.h.length cap3] 36)).alloc (Obj.cells #[Value.slice none 0 0, .int .i64 0, .int .i64 0, Value.slice none 0 0, Value.slice none 0 0] 36)).cell? ⟨w.heap.size, 1, none⟩ = some (.int .i64 m.c) := by simp [go_sem]
  have x2 : ((w.alloc (Obj.cells #[Value.slice a1 m.s.length cap1, .int .i64 m.c, .int .i64 m.n, Value.slice a2 m.x.length cap2, Value.slice a3 m.h.length cap3] 36)).alloc (Obj.cells #[Value.slice none 0 0, .int .i64 0, .int .i64 0, Value.slice none 0 0, Value.slice none 0 0] 36)).cell? ⟨w.heap.size, 2, none⟩ = some (.int .i64 m.n) := by simp [go_sem]
  have x3 : ((w.alloc (Obj.cells #[Value.slice a1 m.s.length cap1, .int .i64 m.c, .int .i64 m.n, Value.slice a2 m.x.length cap2, Value.slice a3 m.h.length cap3] 36)).alloc (Obj.cells #[Value.slice none 0 0, .int .i64 0, .int .i64 0, Value.slice none 0 0, Value.slice none 0 0] 36)).cell? ⟨w.heap.size, 3, none⟩ = some (.slice a2 m.x.length cap2) := by simp [go_sem]
  have x4 : ((w.alloc (Obj.cells #[Value.slice a1 m.s.length cap1, .int .i64 m.c, .int .i64 m.n, Value.slice a2 m.x.length cap2, Value.slice a3 m.h.length cap3] 36)).alloc (Obj.cells #[Value.slice none 0 0, .int .i64 0, .int .i64 0, Value.slice none 0 0, Value.slice none 0 0] 36)).cell? ⟨w.heap.size, 4, none⟩ = some (.slice a3 m.h.length cap3) := by simp [go_sem]
  go_enter Tryz.func9, Tryz.ntmps9
  go_wp2_with fail
  generalize (w.alloc (Obj.cells #[Value.slice a1 m.s.length cap1, .int .i64 m.c, .int .i64 m.n, Value.slice a2 m.x.length cap2, Value.slice a3 m.h.length cap3] 36)).alloc (Obj.cells #[Value.slice none 0 0, .int .i64 0, .int .i64 0, Value.slice none 0 0, Value.slice none 0 0] 36) = W0 at *
  refine Calls.mono (specMgrOk_any _ _ _ m _ (h.stays b0)) ?_
  rintro e w1 ⟨⟨q, rfl, hq⟩, hb1⟩
  have b1 := b0.trans (hb1.mono b0.size)
  have r1 := r0.of_block (hb1.block _ hz0)
  have hz1 := hb1.size
  have y0 := cell_stays hb1 x0
  have y1 := cell_stays hb1 x1
  have y2 := cell_stays hb1 x2
  have y3 := cell_stays hb1 x3
  have y4 := cell_stays hb1 x4
  clear r0 hb1 x0 x1 x2 x3 x4
  change Hid _ at hq
  cases q with
  | false =>
    have hno : ¬ mgrOk m := fun hh => by have := hq.out.2 hh; exact absurd this (by decide)
    have HB : Hid (RB m md0 0 1) := .inr (.inl ⟨hno, rfl, rfl, rfl⟩)
    clear hq hno y0 y1 y2 y3 y4
    have c0 := r1.cell (show 0 < 5 by omega)
    have c1' := r1.cell (show 1 < 5 by omega)
    have c2' := r1.cell (show 2 < 5 by omega)
    have c3' := r1.cell (show 3 < 5 by omega)
    have c4' := r1.cell (show 4 < 5 by omega)
    have f0 := r1.frozen 0
    have f1 := r1.frozen 1
    have f2 := r1.frozen 2
    have f3 := r1.frozen 3
    have f4 := r1.frozen 4
    have hz3 := r1.lt
    go_wp2
    have OF := OwnM.none w.heap.size (((((w1.setCell ⟨w.heap.size + 1, 0, none⟩ (.slice none 0 0)).setCell ⟨w.heap.size + 1, 1, none⟩ (.int .i64 0)).setCell ⟨w.heap.size + 1, 2, none⟩ (.int .i64 0)).setCell ⟨w.heap.size + 1, 3, none⟩ (.slice none 0 0)).setCell ⟨w.heap.size + 1, 4, none⟩ (.slice none 0 0)) (by have := b1.size; simp only [size_setCell]; omega)
    refine bodyPost_ret (v := .tuple #[.agg #[.slice none 0 0, .int .i64 0, .int .i64 0, .slice none 0 0, .slice none 0 0], .int .i64 0, .int .i64 1]) (by simp [results, Tryz.results9, go_sem, c0, c1', c2', c3', c4']) rfl ⟨_, md0, _, _, rfl, ⟨_, _, _, _, _, _, rfl, OF⟩, HB.out, ?_⟩
    repeat (first | exact b1 | refine Below.setCell ?_ (by simp) _)
  | true =>
    have hok : mgrOk m := hq.out.1 rfl
    have HO : Hid (mgrOk m) := hok
    clear hq
    change Hid _ at hok
    go_wp2_with fail
    refine Calls.mono (l2own_any _ _ _ m _ (h.stays b1) hn HO.out) ?_
    rintro e w2 ⟨v, rfl, ⟨s0, s1, vs1, vt1, ve1, wv1, rfl, O2⟩, hb2⟩
    have b2 := b1.trans (hb2.mono b1.size)
    have r2 := r1.of_block (hb2.block _ (by omega))
    have hz2 := hb2.size
    clear r1 b1 y0 y1 y2 y3 y4 hb2
    have P2 := PtrM.ofOwn O2
    have b2' := b2.alloc (by have := b2.size; omega) (Obj.cells #[vs1, .int .i64 m.c, .int .i64 m.n, vt1, ve1] 36)
    have r2' := r2.of_block ((below_alM w2 (Obj.cells #[vs1, .int .i64 m.c, .int .i64 m.n, vt1, ve1] 36)).block _ r2.lt)
    obtain ⟨a2', c2', rfl⟩ := owns_sliceM O2.x
    obtain ⟨a3', c3', rfl⟩ := owns_sliceM O2.h
    obtain ⟨a1', n1', c1', rfl⟩ : ∃ a n c, vs1 = .slice a n c := by
      rcases O2.s with ⟨rfl, _⟩ | ⟨b, Bs, cap, rfl, _⟩
      · exact ⟨_, _, _, rfl⟩
      · exact ⟨_, _, _, rfl⟩
    clear O2 r2 b2
    have hz2' := (below_alM w2 (Obj.cells #[.slice a1' n1' c1', .int .i64 m.c, .int .i64 m.n, .slice a2' m.x.length c2', .slice a3' m.h.length c3'] 36)).size
    go_wp2_with fail
    generalize w2.alloc (Obj.cells #[.slice a1' n1' c1', .int .i64 m.c, .int .i64 m.n, .slice a2' m.x.length c2', .slice a3' m.h.length c3'] 36) = W3 at *
    refine Calls.mono (l2begin_any _ _ s0 s1 _ _ _ m wv1 _ P2 hn.room HO.out) ?_
    rintro e w4 ⟨hb4, hcase⟩
    have hz4 := hb4.size
    have b4 := b2'.trans (hb4.mono (by omega))
    have r4 := r2'.of_block (hb4.block _ (by omega))
    clear P2 b2' r2' hb4
    have c0 := r4.cell (show 0 < 5 by omega)
    have c1x := r4.cell (show 1 < 5 by omega)
    have c2x := r4.cell (show 2 < 5 by omega)
    have c3x := r4.cell (show 3 < 5 by omega)
    have c4x := r4.cell (show 4 < 5 by omega)
    have f0 := r4.frozen 0
    have f1 := r4.frozen 1
    have f2 := r4.frozen 2
    have f3 := r4.frozen 3
    have f4 := r4.frozen 4
    rcases hcase with ⟨hroom, rfl, vt4, ve4, wv4, P4⟩ | ⟨hno, rfl⟩
    · have HB : Hid (RB m (begM m) m.n 0) := .inl ⟨HO.out, hroom, rfl, rfl, rfl⟩
      clear hroom
      have O3 := P4.own
      obtain ⟨p0, _⟩ := P4.cell (j := 0) (by omega)
      obtain ⟨p1, _⟩ := P4.cell (j := 1) (by omega)
      obtain ⟨p2, _⟩ := P4.cell (j := 2) (by omega)
      obtain ⟨p3, _⟩ := P4.cell (j := 3) (by omega)
      obtain ⟨p4, _⟩ := P4.cell (j := 4) (by omega)
      simp only [bxf] at p0 p1 p2 p3 p4
      obtain ⟨va, vc, rfl⟩ := owns_sliceM O3.x
      obtain ⟨ea, ec, rfl⟩ := owns_sliceM O3.h
      clear P4
      go_wp2
      obtain ⟨kz, kk⟩ := boxed_keep0 w4 (w.heap.size + 1) (.slice a1' n1' c1') (.int .i64 (begM m).c) (.int .i64 (begM m).n) (.slice va (begM m).x.length vc) (.slice ea (begM m).h.length ec)
      have OF := (O3.keep (fun k h1 h2 => kk k (by omega) h2) kz).mono (base' := w.heap.size) (by omega)
      refine bodyPost_ret (v := .tuple #[.agg #[.slice a1' n1' c1', .int .i64 (begM m).c, .int .i64 (begM m).n, .slice va (begM m).x.length vc, .slice ea (begM m).h.length ec], .int .i64 m.n, .int .i64 0]) (by simp [results, Tryz.results9, go_sem, c0, c1x, c2x, c3x, c4x]) rfl ⟨_, begM m, _, _, rfl, ⟨s0, s1, _, _, _, _, rfl, OF⟩, HB.out, ?_⟩
      repeat (first | exact b4 | refine Below.setCell ?_ (by simp) _)
    · have HB : Hid (RB m md0 0 2) := .inr (.inr ⟨HO.out, hno, rfl, rfl, rfl⟩)
      clear hno
      go_wp2
      have OF := OwnM.none w.heap.size (((((w4.setCell ⟨w.heap.size + 1, 0, none⟩ (.slice none 0 0)).setCell ⟨w.heap.size + 1, 1, none⟩ (.int .i64 0)).setCell ⟨w.heap.size + 1, 2, none⟩ (.int .i64 0)).setCell ⟨w.heap.size + 1, 3, none⟩ (.slice none 0 0)).setCell ⟨w.heap.size + 1, 4, none⟩ (.slice none 0 0)) (by have := b4.size; simp only [size_setCell]; omega)
      refine bodyPost_ret (v := .tuple #[.agg #[.slice none 0 0, .int .i64 0, .int .i64 0, .slice none 0 0, .slice none 0 0], .int .i64 0, .int .i64 2]) (by simp [results, Tryz.results9, go_sem, c0, c1x, c2x, c3x, c4x]) rfl ⟨_, md0, _, _, rfl, ⟨_, _, _, _, _, _, rfl, OF⟩, HB.out, ?_⟩
      repeat (first | exact b4 | refine Below.setCell ?_ (by simp) _)
end Go.Proofs.YtmecbppblbmchaaGreatDoor
