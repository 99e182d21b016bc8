import Derived.Test.YtmecbppblbmchaaGreatDoorT5
import Derived.Test.YtmecbppblbmchaaGreatDoorM8
import Derived.Test.YtmecbppblbmchaaGreatDoorReadPi
import Derived.Test.YtmecbppblbmchaaGreatDoorU5
/- The specification's TxRead. -/
namespace Go.Proofs.YtmecbppblbmchaaGreatDoor
open Go.ChangeShapes Go.WideShapes Go.ChangeAt Go.RowKit Go.Sort
set_option linter.unusedVariables false
set_option maxRecDepth 100000
attribute [local go_sem ↓] Go.wp_at_zero Go.wp_at_succ

theorem OwnM.slices2 {base s0 s1 : Nat} {w : World} {vs vt ve : Value} {m : Md} {wv : Nat → Value} (h : OwnM base w s0 s1 vs vt ve m wv) : (∃ a c, vs = .slice a m.s.length c) ∧ (∃ a c, vt = .slice a m.x.length c) ∧ ∃ a c, ve = .slice a m.h.length c := by
  refine ⟨?_, owns_sliceM h.x, owns_sliceM h.h⟩
  rcases h.s with ⟨e, e2⟩ | ⟨b, Bs, cap, e, _⟩
  · exact ⟨_, _, by rw [e, e2]; rfl⟩
  · exact ⟨_, _, e⟩

set_option maxHeartbeats 8000000 in
theorem specTxRead_any (vs vt ve : Value) (m : Md) (tx t r : Int) (w : World) {lo hi : Nat} (h : MAt lo hi w vs vt ve m) (hn : SmallM m) :
    Calls Tryz.prog 15 #[.agg #[vs, .int .i64 m.c, .int .i64 m.n, vt, ve], .int .i64 tx, .agg #[.int .i64 t, .int .i64 r]] w fun e w' => ∃ v x val code, e = .returned (.tuple #[v, .int .i64 val, .int .i64 code]) ∧ AnsM w.heap.size w' v x ∧ RR m x tx t r val code ∧ Below w.heap.size w w' := by
  obtain ⟨a1, cap1, hv1⟩ : ∃ a cap, vs = .slice a m.s.length cap := by obtain ⟨a, cap, h1, _⟩ := h.s; exact ⟨a, cap, h1⟩
  obtain ⟨a2, cap2, hv2⟩ : ∃ a cap, vt = .slice a m.x.length cap := by obtain ⟨a, cap, h1, _⟩ := h.x; exact ⟨a, cap, h1⟩
  obtain ⟨a3, cap3, hv3⟩ : ∃ a cap, ve = .slice a m.h.length cap := by obtain ⟨a, cap, h1, _⟩ := h.h; exact ⟨a, cap, h1⟩
  subst hv1 hv2 hv3
  have b0 : Below w.heap.size w (((w.alloc (Obj.cells #[Value.slice a1 m.s.length cap1, .int .i64 m.c, .int .i64 m.n, Value.slice a2 m.x.length cap2, Value.slice a3 m.h.length cap3] 36)).alloc (Obj.cells #[Value.int IntKind.i64 t, Value.int IntKind.i64 r] 46)).alloc (Obj.cells #[Value.slice none 0 0, .int .i64 0, .int .i64 0, Value.slice none 0 0, Value.slice none 0 0] 36)) := (((Below.refl _ _).alloc (Nat.le_refl _) _).alloc (by simp) _).alloc (by simp; omega) _
  have r0 := zeroBox (w.alloc (Obj.cells #[Value.slice a1 m.s.length cap1, .int .i64 m.c, .int .i64 m.n, Value.slice a2 m.x.length cap2, Value.slice a3 m.h.length cap3] 36)) (Obj.cells #[Value.int IntKind.i64 t, Value.int IntKind.i64 r] 46)
  rw [show (w.alloc (Obj.cells #[Value.slice a1 m.s.length cap1, .int .i64 m.c, .int .i64 m.n, Value.slice a2 m.x.length cap2, Value.slice a3 m.h.length cap3] 36)).heap.size = w.heap.size + 1 by simp] at r0
  have hz0 : w.heap.size + 1 + 1 < (((w.alloc (Obj.cells #[Value.slice a1 m.s.length cap1, .int .i64 m.c, .int .i64 m.n, Value.slice a2 m.x.length cap2, Value.slice a3 m.h.length cap3] 36)).alloc (Obj.cells #[Value.int IntKind.i64 t, Value.int IntKind.i64 r] 46)).alloc (Obj.cells #[Value.slice none 0 0, .int .i64 0, .int .i64 0, Value.slice none 0 0, Value.slice none 0 0] 36)).heap.size := by simp
  have k0 : (((w.alloc (Obj.cells #[Value.slice a1 m.s.length cap1, .int .i64 m.c, .int .i64 m.n, Value.slice a2 m.x.length cap2, Value.slice a3 m.h.length cap3] 36)).alloc (Obj.cells #[Value.int IntKind.i64 t, Value.int IntKind.i64 r] 46)).alloc (Obj.cells #[Value.slice none 0 0, .int .i64 0, .int .i64 0, Value.slice none 0 0, Value.slice none 0 0] 36)).cell? ⟨w.heap.size + 1, 0, none⟩ = some (.int .i64 t) := by simp [go_sem]
  have k1 : (((w.alloc (Obj.cells #[Value.slice a1 m.s.length cap1, .int .i64 m.c, .int .i64 m.n, Value.slice a2 m.x.length cap2, Value.slice a3 m.h.length cap3] 36)).alloc (Obj.cells #[Value.int IntKind.i64 t, Value.int IntKind.i64 r] 46)).alloc (Obj.cells #[Value.slice none 0 0, .int .i64 0, .int .i64 0, Value.slice none 0 0, Value.slice none 0 0] 36)).cell? ⟨w.heap.size + 1, 1, none⟩ = some (.int .i64 r) := by simp [go_sem]
  have pB : MBox (((w.alloc (Obj.cells #[Value.slice a1 m.s.length cap1, .int .i64 m.c, .int .i64 m.n, Value.slice a2 m.x.length cap2, Value.slice a3 m.h.length cap3] 36)).alloc (Obj.cells #[Value.int IntKind.i64 t, Value.int IntKind.i64 r] 46)).alloc (Obj.cells #[Value.slice none 0 0, .int .i64 0, .int .i64 0, Value.slice none 0 0, Value.slice none 0 0] 36)) w.heap.size (.slice a1 m.s.length cap1) m.c m.n (.slice a2 m.x.length cap2) (.slice a3 m.h.length cap3) := ⟨by simp [go_sem], by simp [go_sem], by simp [go_sem], by simp [go_sem], by simp [go_sem]⟩
  have x0 := pB.s
  have x1 := pB.c
  have x2 := pB.n
  have x3 := pB.x
  have x4 := pB.h
  go_enter Tryz.func15, Tryz.ntmps15
  go_wp2_with fail
  generalize ((w.alloc (Obj.cells #[Value.slice a1 m.s.length cap1, .int .i64 m.c, .int .i64 m.n, Value.slice a2 m.x.length cap2, Value.slice a3 m.h.length cap3] 36)).alloc (Obj.cells #[Value.int IntKind.i64 t, Value.int IntKind.i64 r] 46)).alloc (Obj.cells #[Value.slice none 0 0, .int .i64 0, .int .i64 0, Value.slice none 0 0, Value.slice none 0 0] 36) = W0 at *
  refine Calls.mono (specMgrOk_any _ _ _ m _ (h.stays b0)) ?_
  rintro e w1 ⟨⟨q, rfl, hq⟩, hb1⟩
  have b1 := b0.trans (hb1.mono b0.size)
  have r1 := r0.of_block (hb1.block _ hz0)
  have hz1 := hb1.size
  have p1 := pB.stays hb1
  have k0' := cell_stays hb1 k0
  have k1' := cell_stays hb1 k1
  clear r0 hb1 x0 x1 x2 x3 x4 pB k0 k1
  change Hid _ at hq
  cases q with
  | false =>
    have hno : ¬ mgrOk m := fun hh => by have := hq.out.2 hh; exact absurd this (by decide)
    have HB : Hid (RR m md0 tx t r 0 1) := .inr (.inl ⟨.inl hno, rfl, rfl, rfl⟩)
    clear hq hno p1
    have c0x := r1.cell (show 0 < 5 by omega)
    have c1x := r1.cell (show 1 < 5 by omega)
    have c2x := r1.cell (show 2 < 5 by omega)
    have c3x := r1.cell (show 3 < 5 by omega)
    have c4x := r1.cell (show 4 < 5 by omega)
    have f0 := r1.frozen 0
    have f1 := r1.frozen 1
    have f2 := r1.frozen 2
    have f3 := r1.frozen 3
    have f4 := r1.frozen 4
    have hzr := r1.lt
    go_wp2
    have OF := OwnM.none w.heap.size (((((w1.setCell ⟨w.heap.size + 1 + 1, 0, none⟩ (.slice none 0 0)).setCell ⟨w.heap.size + 1 + 1, 1, none⟩ (.int .i64 0)).setCell ⟨w.heap.size + 1 + 1, 2, none⟩ (.int .i64 0)).setCell ⟨w.heap.size + 1 + 1, 3, none⟩ (.slice none 0 0)).setCell ⟨w.heap.size + 1 + 1, 4, none⟩ (.slice none 0 0)) (by have := b1.size; simp only [size_setCell]; omega)
    refine bodyPost_ret (v := .tuple #[.agg #[.slice none 0 0, .int .i64 0, .int .i64 0, .slice none 0 0, .slice none 0 0], .int .i64 0, .int .i64 1]) (by simp [results, Tryz.results15, go_sem, c0x, c1x, c2x, c3x, c4x]) rfl ⟨_, md0, _, _, rfl, ⟨_, _, _, _, _, _, rfl, OF⟩, HB.out, ?_⟩
    repeat (first | exact b1 | refine Below.setCell ?_ (by simp; omega) _)
  | true =>
    have hok : mgrOk m := hq.out.1 rfl
    have HO : Hid (mgrOk m) := hok
    clear hq
    change Hid _ at hok
    go_wp2_with fail
    refine Calls.mono (l2tx_any w.heap.size _ _ _ m tx _ p1 (h.stays b1).x) ?_
    rintro e w2 ⟨⟨x, rfl, hx⟩, rfl⟩
    rcases hx with ⟨rfl, hno⟩ | ⟨i, rfl, hi⟩
    · have HB : Hid (RR m md0 tx t r 0 1) := .inr (.inl ⟨.inr (.inl hno), rfl, rfl, rfl⟩)
      clear hno p1
      have c0x := r1.cell (show 0 < 5 by omega)
      have c1x := r1.cell (show 1 < 5 by omega)
      have c2x := r1.cell (show 2 < 5 by omega)
      have c3x := r1.cell (show 3 < 5 by omega)
      have c4x := r1.cell (show 4 < 5 by omega)
      have f0 := r1.frozen 0
      have f1 := r1.frozen 1
      have f2 := r1.frozen 2
      have f3 := r1.frozen 3
      have f4 := r1.frozen 4
      have hzr := r1.lt
      go_wp2
      have OF := OwnM.none w.heap.size (((((w2.setCell ⟨w.heap.size + 1 + 1, 0, none⟩ (.slice none 0 0)).setCell ⟨w.heap.size + 1 + 1, 1, none⟩ (.int .i64 0)).setCell ⟨w.heap.size + 1 + 1, 2, none⟩ (.int .i64 0)).setCell ⟨w.heap.size + 1 + 1, 3, none⟩ (.slice none 0 0)).setCell ⟨w.heap.size + 1 + 1, 4, none⟩ (.slice none 0 0)) (by have := b1.size; simp only [size_setCell]; omega)
      refine bodyPost_ret (v := .tuple #[.agg #[.slice none 0 0, .int .i64 0, .int .i64 0, .slice none 0 0, .slice none 0 0], .int .i64 0, .int .i64 1]) (by simp [results, Tryz.results15, go_sem, c0x, c1x, c2x, c3x, c4x]) rfl ⟨_, md0, _, _, rfl, ⟨_, _, _, _, _, _, rfl, OF⟩, HB.out, ?_⟩
      repeat (first | exact b1 | refine Below.setCell ?_ (by simp; omega) _)
    · have HI : Hid (IsTx m tx i) := hi
      have hi0 : ¬ (i : Int) < 0 := by omega
      clear hi
      by_cases ht : tabB t = true
      · have HT : Hid (tabB t = true) := ht
        go_wp2_with fail
        refine Calls.mono (l1table_any t r _) ?_
        rw [ht]
        rintro e w3 ⟨rfl, hb3⟩
        have b3 := b1.trans (hb3.mono b1.size)
        have r3 := r1.of_block (hb3.block _ (by omega))
        obtain ⟨x0, x1, x2, x3, x4⟩ := p1.stays hb3
        have g0 := cell_stays hb3 k0'
        have g1 := cell_stays hb3 k1'
        have hz3 := hb3.size
        clear ht p1 k0' k1' r1 b1 hb3
        go_wp2_with fail
        refine Calls.mono (l2own_any _ _ _ m _ (h.stays b3) hn HO.out) ?_
        rintro e w4 ⟨v, rfl, ⟨s0, s1, vs1, vt1, ve1, wv1, rfl, O2⟩, hb4⟩
        have b4 := b3.trans (hb4.mono b3.size)
        have r4 := r3.of_block (hb4.block _ (by omega))
        have y0 := cell_stays hb4 g0
        have y1 := cell_stays hb4 g1
        have hz4 := hb4.size
        clear r3 b3 x0 x1 x2 x3 x4 hb4 g0 g1
        have P2 := PtrM.ofOwn O2
        have bA := below_alM w4 (Obj.cells #[vs1, .int .i64 m.c, .int .i64 m.n, vt1, ve1] 36)
        have b5 := b4.trans (bA.mono b4.size)
        have r5 := r4.of_block (bA.block _ r4.lt)
        have y0' := cell_stays bA y0
        have y1' := cell_stays bA y1
        have hM5 := P2.own.mat hn.room
        obtain ⟨⟨a1', c1', rfl⟩, ⟨a2', c2', rfl⟩, ⟨a3', c3', rfl⟩⟩ := P2.own.slices2
        have hz5 := bA.size
        have hKw : w.heap.size + 1 < w3.heap.size := by omega
        clear O2 r4 b4 bA y0 y1
        go_wp2_with fail
        generalize w4.alloc (Obj.cells #[.slice a1' m.s.length c1', .int .i64 m.c, .int .i64 m.n, .slice a2' m.x.length c2', .slice a3' m.h.length c3'] 36) = W5 at *
        have bD := (Below.refl W5.heap.size W5).drew
        refine region_all (fun x => x.cell? ⟨w.heap.size + 1, 0, none⟩ = some (.int .i64 t) ∧ x.cell? ⟨w.heap.size + 1, 1, none⟩ = some (.int .i64 r)) (by kernel_rfl) ⟨cell_stays bD y0', cell_stays bD y1'⟩ (fun hHeld0 => ?_)
        simp only [List.length_cons, List.length_nil, Nat.reduceAdd]
        refine takeL (i := 0) (v := ?_) rfl (by kernel_rfl) (by kernel_rfl) (by kernel_rfl) (fun _ _ _ h => h) rfl (by assumption) ?_ ?_
        rotate_left
        · (intro wS hSw; (try dsimp only at hSw); go_simp; try with_reducible rfl)
        (try simp only [Act.put, List.setIfInBounds_toArray, List.set_cons_zero, List.set_cons_succ])
        refine takeL (i := 2) (v := ?_) rfl (by kernel_rfl) (by kernel_rfl) (by kernel_rfl) (fun _ _ _ h => h) rfl (by assumption) ?_ ?_
        rotate_left
        · (intro wS hSw; (try dsimp only at hSw); go_simp; try with_reducible rfl)
        (try simp only [Act.put, List.setIfInBounds_toArray, List.set_cons_zero, List.set_cons_succ])
        refine stepL (i := 1) rfl (by kernel_rfl) (fun K hK => ?_)
        rw [if_pos (by rfl)]
        go_simp
        refine Calls.mono (l2tx_any w4.heap.size _ _ _ m tx _ (P2.mbox.stays bD) (hM5.x.stays bD)) ?_
        rintro e w6 ⟨⟨x, rfl, hx⟩, rfl⟩
        obtain rfl : x = (i : Int) := by
          rcases hx with ⟨rfl, hno⟩ | ⟨i', rfl, hi'⟩
          · exact (noTx_isTx hno HI.out).elim
          · rw [hi'.one HI.out]
        clear hx
        refine hK.out _ _ ⟨cell_stays bD y0', cell_stays bD y1'⟩ (fun hHeld1 => ?_)
        clear hK K hHeld0
        (try simp only [Act.put, List.setIfInBounds_toArray, List.set_cons_zero, List.set_cons_succ])
        refine stepL (i := 3) rfl (by kernel_rfl) (fun K hK => ?_)
        rw [if_pos (by rfl)]
        go_simp
        refine Calls.mono (l2read_any _ w4.heap.size s0 s1 _ _ _ m wv1 tx t r i _ (P2.stays bD) hn.room HO.out HI.out HT.out) ?_
        rintro e w7 ⟨hb7, hcase⟩
        have hz7 := hb7.size
        have b7 := b5.trans ((bD.mono (by have := b5.size; exact this)).trans (hb7.mono (by omega)))
        have hk7 : ∀ o u, W5.cell? ⟨w.heap.size + 1, o, none⟩ = some u → w7.cell? ⟨w.heap.size + 1, o, none⟩ = some u := fun o u hu => cell_same (hb7.block _ hKw) hu
        have r7 := r5.of_block (hb7.block _ (show w.heap.size + 1 + 1 < w3.heap.size by omega))
        rcases hcase with ⟨hh, p, ve7, hp, rfl, P7⟩ | ⟨hh, rfl⟩
        · have HB : Hid (RR m (rdM m tx t r p) tx t r p.1 0) := .inl ⟨HO.out, HT.out, hh, i, p, HI.out, hp, rfl, rfl, rfl⟩
          clear hp hh
          refine hK.out _ _ ⟨hk7 _ _ y0', hk7 _ _ y1'⟩ (fun hHeld2 => ?_)
          clear hK K hHeld1
          (try simp only [Act.put, List.setIfInBounds_toArray, List.set_cons_zero, List.set_cons_succ])
          refine takeL (i := 4) (v := ?_) rfl (by kernel_rfl) (by kernel_rfl) (by kernel_rfl) (fun _ _ _ h => h) rfl (by assumption) ?_ ?_
          rotate_left
          · (intro wS hSw; (try dsimp only at hSw); go_simp; try with_reducible rfl)
          (try simp only [Act.put, List.setIfInBounds_toArray, List.set_cons_zero, List.set_cons_succ])
          refine takeL (i := 5) (v := ?_) rfl (by kernel_rfl) (by kernel_rfl) (by kernel_rfl) (fun _ _ _ h => h) rfl (by assumption) ?_ ?_
          rotate_left
          · (intro wS hSw; (try dsimp only at hSw); go_simp; try with_reducible rfl)
          (try simp only [Act.put, List.setIfInBounds_toArray, List.set_cons_zero, List.set_cons_succ])
          refine takeL (i := 6) (v := ?_) rfl (by kernel_rfl) (by kernel_rfl) (by kernel_rfl) (fun _ _ _ h => h) rfl (by assumption) ?_ ?_
          rotate_left
          · (intro wS hSw; (try dsimp only at hSw); go_simp; try with_reducible rfl)
          (try simp only [Act.put, List.setIfInBounds_toArray, List.set_cons_zero, List.set_cons_succ])
          refine takeL (i := 7) (v := ?_) rfl (by kernel_rfl) (by kernel_rfl) (by kernel_rfl) (fun _ _ _ h => h) rfl (by assumption) ?_ ?_
          rotate_left
          · (intro wS hSw; (try dsimp only at hSw); go_simp; try with_reducible rfl)
          (try simp only [Act.put, List.setIfInBounds_toArray, List.set_cons_zero, List.set_cons_succ])
          refine takeL (i := 8) (v := ?_) rfl (by kernel_rfl) (by kernel_rfl) (by kernel_rfl) (fun _ _ _ h => h) rfl (by assumption) ?_ ?_
          rotate_left
          · (intro wS hSw; (try dsimp only at hSw); go_simp; try with_reducible rfl)
          (try simp only [Act.put, List.setIfInBounds_toArray, List.set_cons_zero, List.set_cons_succ])
          refine wpAnyH_done (by kernel_rfl) ?_ _
          clear hHeld2 hk7 y0' y1' bD P2 hM5
          have O7 := P7.own
          obtain ⟨p0, _⟩ := P7.cell (j := 0) (by omega)
          obtain ⟨p1, _⟩ := P7.cell (j := 1) (by omega)
          obtain ⟨p2, _⟩ := P7.cell (j := 2) (by omega)
          obtain ⟨p3, _⟩ := P7.cell (j := 3) (by omega)
          obtain ⟨p4, _⟩ := P7.cell (j := 4) (by omega)
          simp only [bxf] at p0 p1 p2 p3 p4
          obtain ⟨_, _, ea, ec, rfl⟩ := O7.slices2
          clear P7
          have c0x := r7.cell (show 0 < 5 by omega)
          have c1x := r7.cell (show 1 < 5 by omega)
          have c2x := r7.cell (show 2 < 5 by omega)
          have c3x := r7.cell (show 3 < 5 by omega)
          have c4x := r7.cell (show 4 < 5 by omega)
          have f0 := r7.frozen 0
          have f1 := r7.frozen 1
          have f2 := r7.frozen 2
          have f3 := r7.frozen 3
          have f4 := r7.frozen 4
          go_wp2
          obtain ⟨kz, kk⟩ := boxed_keep0 w7 (w.heap.size + 1 + 1) (.slice a1' m.s.length c1') (.int .i64 (rdM m tx t r p).c) (.int .i64 (rdM m tx t r p).n) (.slice a2' m.x.length c2') (.slice ea (rdM m tx t r p).h.length ec)
          have OF := (O7.keep (fun k h1 h2 => kk k (by omega) h2) kz).mono (base' := w.heap.size) (by omega)
          refine bodyPost_ret (v := .tuple #[.agg #[.slice a1' m.s.length c1', .int .i64 (rdM m tx t r p).c, .int .i64 (rdM m tx t r p).n, .slice a2' m.x.length c2', .slice ea (rdM m tx t r p).h.length ec], .int .i64 p.1, .int .i64 0]) (by simp [results, Tryz.results15, go_sem, c0x, c1x, c2x, c3x, c4x]) rfl ⟨_, rdM m tx t r p, _, _, rfl, ⟨s0, s1, _, _, _, _, rfl, OF⟩, HB.out, ?_⟩
          repeat (first | exact b7 | refine Below.setCell ?_ (by simp; omega) _)
        · have HB : Hid (RR m md0 tx t r 0 2) := .inr (.inr ⟨HO.out, ⟨i, HI.out⟩, HT.out, hh, rfl, rfl, rfl⟩)
          clear hh
          refine hK.out _ _ ⟨hk7 _ _ y0', hk7 _ _ y1'⟩ (fun hHeld2 => ?_)
          clear hK K hHeld1
          (try simp only [Act.put, List.setIfInBounds_toArray, List.set_cons_zero, List.set_cons_succ])
          refine takeL (i := 4) (v := ?_) rfl (by kernel_rfl) (by kernel_rfl) (by kernel_rfl) (fun _ _ _ h => h) rfl (by assumption) ?_ ?_
          rotate_left
          · (intro wS hSw; (try dsimp only at hSw); go_simp; try with_reducible rfl)
          (try simp only [Act.put, List.setIfInBounds_toArray, List.set_cons_zero, List.set_cons_succ])
          refine takeL (i := 5) (v := ?_) rfl (by kernel_rfl) (by kernel_rfl) (by kernel_rfl) (fun _ _ _ h => h) rfl (by assumption) ?_ ?_
          rotate_left
          · (intro wS hSw; (try dsimp only at hSw); go_simp; try with_reducible rfl)
          (try simp only [Act.put, List.setIfInBounds_toArray, List.set_cons_zero, List.set_cons_succ])
          refine takeL (i := 6) (v := ?_) rfl (by kernel_rfl) (by kernel_rfl) (by kernel_rfl) (fun _ _ _ h => h) rfl (by assumption) ?_ ?_
          rotate_left
          · (intro wS hSw; (try dsimp only at hSw); go_simp; try with_reducible rfl)
          (try simp only [Act.put, List.setIfInBounds_toArray, List.set_cons_zero, List.set_cons_succ])
          refine takeL (i := 7) (v := ?_) rfl (by kernel_rfl) (by kernel_rfl) (by kernel_rfl) (fun _ _ _ h => h) rfl (by assumption) ?_ ?_
          rotate_left
          · (intro wS hSw; (try dsimp only at hSw); go_simp; try with_reducible rfl)
          (try simp only [Act.put, List.setIfInBounds_toArray, List.set_cons_zero, List.set_cons_succ])
          refine takeL (i := 8) (v := ?_) rfl (by kernel_rfl) (by kernel_rfl) (by kernel_rfl) (fun _ _ _ h => h) rfl (by assumption) ?_ ?_
          rotate_left
          · (intro wS hSw; (try dsimp only at hSw); go_simp; try with_reducible rfl)
          (try simp only [Act.put, List.setIfInBounds_toArray, List.set_cons_zero, List.set_cons_succ])
          refine wpAnyH_done (by kernel_rfl) ?_ _
          clear hHeld2 hk7 y0' y1' bD P2 hM5
          have c0x := r7.cell (show 0 < 5 by omega)
          have c1x := r7.cell (show 1 < 5 by omega)
          have c2x := r7.cell (show 2 < 5 by omega)
          have c3x := r7.cell (show 3 < 5 by omega)
          have c4x := r7.cell (show 4 < 5 by omega)
          have f0 := r7.frozen 0
          have f1 := r7.frozen 1
          have f2 := r7.frozen 2
          have f3 := r7.frozen 3
          have f4 := r7.frozen 4
          have hzr := r7.lt
          go_wp2
          have OF := OwnM.none w.heap.size (((((w7.setCell ⟨w.heap.size + 1 + 1, 0, none⟩ (.slice none 0 0)).setCell ⟨w.heap.size + 1 + 1, 1, none⟩ (.int .i64 0)).setCell ⟨w.heap.size + 1 + 1, 2, none⟩ (.int .i64 0)).setCell ⟨w.heap.size + 1 + 1, 3, none⟩ (.slice none 0 0)).setCell ⟨w.heap.size + 1 + 1, 4, none⟩ (.slice none 0 0)) (by have := b7.size; simp only [size_setCell]; omega)
          refine bodyPost_ret (v := .tuple #[.agg #[.slice none 0 0, .int .i64 0, .int .i64 0, .slice none 0 0, .slice none 0 0], .int .i64 0, .int .i64 2]) (by simp [results, Tryz.results15, go_sem, c0x, c1x, c2x, c3x, c4x]) rfl ⟨_, md0, _, _, rfl, ⟨_, _, _, _, _, _, rfl, OF⟩, HB.out, ?_⟩
          repeat (first | exact b7 | refine Below.setCell ?_ (by simp; omega) _)
      · have HB : Hid (RR m md0 tx t r 0 1) := .inr (.inl ⟨.inr (.inr ht), rfl, rfl, rfl⟩)
        have ht' : tabB t = false := by simpa using ht
        go_wp2_with fail
        refine Calls.mono (l1table_any t r _) ?_
        rw [ht']
        rintro e w3 ⟨rfl, hb3⟩
        have b3 := b1.trans (hb3.mono b1.size)
        have r3 := r1.of_block (hb3.block _ (by omega))
        clear ht ht' p1 k0' k1' r1 b1 hb3
        have c0x := r3.cell (show 0 < 5 by omega)
        have c1x := r3.cell (show 1 < 5 by omega)
        have c2x := r3.cell (show 2 < 5 by omega)
        have c3x := r3.cell (show 3 < 5 by omega)
        have c4x := r3.cell (show 4 < 5 by omega)
        have f0 := r3.frozen 0
        have f1 := r3.frozen 1
        have f2 := r3.frozen 2
        have f3 := r3.frozen 3
        have f4 := r3.frozen 4
        have hzr := r3.lt
        go_wp2
        have OF := OwnM.none w.heap.size (((((w3.setCell ⟨w.heap.size + 1 + 1, 0, none⟩ (.slice none 0 0)).setCell ⟨w.heap.size + 1 + 1, 1, none⟩ (.int .i64 0)).setCell ⟨w.heap.size + 1 + 1, 2, none⟩ (.int .i64 0)).setCell ⟨w.heap.size + 1 + 1, 3, none⟩ (.slice none 0 0)).setCell ⟨w.heap.size + 1 + 1, 4, none⟩ (.slice none 0 0)) (by have := b3.size; simp only [size_setCell]; omega)
        refine bodyPost_ret (v := .tuple #[.agg #[.slice none 0 0, .int .i64 0, .int .i64 0, .slice none 0 0, .slice none 0 0], .int .i64 0, .int .i64 1]) (by simp [results, Tryz.results15, go_sem, c0x, c1x, c2x, c3x, c4x]) rfl ⟨_, md0, _, _, rfl, ⟨_, _, _, _, _, _, rfl, OF⟩, HB.out, ?_⟩
        repeat (first | exact b3 | refine Below.setCell ?_ (by simp; omega) _)
end Go.Proofs.YtmecbppblbmchaaGreatDoor

/- The specification's TxWrite. -/
namespace Go.Proofs.YtmecbppblbmchaaGreatDoor
open Go.ChangeShapes Go.WideShapes Go.ChangeAt Go.RowKit Go.Sort
set_option linter.unusedVariables false
set_option maxRecDepth 100000
attribute [local go_sem ↓] Go.wp_at_zero Go.wp_at_succ

set_option maxHeartbeats 8000000 in
theorem specTxWrite_any (vs vt ve : Value) (m : Md) (tx t r val : Int) (w : World) {lo hi : Nat} (h : MAt lo hi w vs vt ve m) (hn : SmallM m) :
    Calls Tryz.prog 18 #[.agg #[vs, .int .i64 m.c, .int .i64 m.n, vt, ve], .int .i64 tx, .agg #[.int .i64 t, .int .i64 r], .int .i64 val] w fun e w' => ∃ v x code, e = .returned (.tuple #[v, .int .i64 code]) ∧ AnsM w.heap.size w' v x ∧ RW m x tx t r val code ∧ Below w.heap.size w w' := by
  obtain ⟨a1, cap1, hv1⟩ : ∃ a cap, vs = .slice a m.s.length cap := by obtain ⟨a, cap, h1, _⟩ := h.s; exact ⟨a, cap, h1⟩
  obtain ⟨a2, cap2, hv2⟩ : ∃ a cap, vt = .slice a m.x.length cap := by obtain ⟨a, cap, h1, _⟩ := h.x; exact ⟨a, cap, h1⟩
  obtain ⟨a3, cap3, hv3⟩ : ∃ a cap, ve = .slice a m.h.length cap := by obtain ⟨a, cap, h1, _⟩ := h.h; exact ⟨a, cap, h1⟩
  subst hv1 hv2 hv3
  have b0 : Below w.heap.size w (((w.alloc (Obj.cells #[Value.slice a1 m.s.length cap1, .int .i64 m.c, .int .i64 m.n, Value.slice a2 m.x.length cap2, Value.slice a3 m.h.length cap3] 36)).alloc (Obj.cells #[Value.int IntKind.i64 t, Value.int IntKind.i64 r] 46)).alloc (Obj.cells #[Value.slice none 0 0, .int .i64 0, .int .i64 0, Value.slice none 0 0, Value.slice none 0 0] 36)) := (((Below.refl _ _).alloc (Nat.le_refl _) _).alloc (by simp) _).alloc (by simp; omega) _
  have r0 := zeroBox (w.alloc (Obj.cells #[Value.slice a1 m.s.length cap1, .int .i64 m.c, .int .i64 m.n, Value.slice a2 m.x.length cap2, Value.slice a3 m.h.length cap3] 36)) (Obj.cells #[Value.int IntKind.i64 t, Value.int IntKind.i64 r] 46)
  rw [show (w.alloc (Obj.cells #[Value.slice a1 m.s.length cap1, .int .i64 m.c, .int .i64 m.n, Value.slice a2 m.x.length cap2, Value.slice a3 m.h.length cap3] 36)).heap.size = w.heap.size + 1 by simp] at r0
  have hz0 : w.heap.size + 1 + 1 < (((w.alloc (Obj.cells #[Value.slice a1 m.s.length cap1, .int .i64 m.c, .int .i64 m.n, Value.slice a2 m.x.length cap2, Value.slice a3 m.h.length cap3] 36)).alloc (Obj.cells #[Value.int IntKind.i64 t, Value.int IntKind.i64 r] 46)).alloc (Obj.cells #[Value.slice none 0 0, .int .i64 0, .int .i64 0, Value.slice none 0 0, Value.slice none 0 0] 36)).heap.size := by simp
  have k0 : (((w.alloc (Obj.cells #[Value.slice a1 m.s.length cap1, .int .i64 m.c, .int .i64 m.n, Value.slice a2 m.x.length cap2, Value.slice a3 m.h.length cap3] 36)).alloc (Obj.cells #[Value.int IntKind.i64 t, Value.int IntKind.i64 r] 46)).alloc (Obj.cells #[Value.slice none 0 0, .int .i64 0, .int .i64 0, Value.slice none 0 0, Value.slice none 0 0] 36)).cell? ⟨w.heap.size + 1, 0, none⟩ = some (.int .i64 t) := by simp [go_sem]
  have k1 : (((w.alloc (Obj.cells #[Value.slice a1 m.s.length cap1, .int .i64 m.c, .int .i64 m.n, Value.slice a2 m.x.length cap2, Value.slice a3 m.h.length cap3] 36)).alloc (Obj.cells #[Value.int IntKind.i64 t, Value.int IntKind.i64 r] 46)).alloc (Obj.cells #[Value.slice none 0 0, .int .i64 0, .int .i64 0, Value.slice none 0 0, Value.slice none 0 0] 36)).cell? ⟨w.heap.size + 1, 1, none⟩ = some (.int .i64 r) := by simp [go_sem]
  have pB : MBox (((w.alloc (Obj.cells #[Value.slice a1 m.s.length cap1, .int .i64 m.c, .int .i64 m.n, Value.slice a2 m.x.length cap2, Value.slice a3 m.h.length cap3] 36)).alloc (Obj.cells #[Value.int IntKind.i64 t, Value.int IntKind.i64 r] 46)).alloc (Obj.cells #[Value.slice none 0 0, .int .i64 0, .int .i64 0, Value.slice none 0 0, Value.slice none 0 0] 36)) w.heap.size (.slice a1 m.s.length cap1) m.c m.n (.slice a2 m.x.length cap2) (.slice a3 m.h.length cap3) := ⟨by simp [go_sem], by simp [go_sem], by simp [go_sem], by simp [go_sem], by simp [go_sem]⟩
  have x0 := pB.s
  have x1 := pB.c
  have x2 := pB.n
  have x3 := pB.x
  have x4 := pB.h
  go_enter Tryz.func18, Tryz.ntmps18
  go_wp2_with fail
  generalize ((w.alloc (Obj.cells #[Value.slice a1 m.s.length cap1, .int .i64 m.c, .int .i64 m.n, Value.slice a2 m.x.length cap2, Value.slice a3 m.h.length cap3] 36)).alloc (Obj.cells #[Value.int IntKind.i64 t, Value.int IntKind.i64 r] 46)).alloc (Obj.cells #[Value.slice none 0 0, .int .i64 0, .int .i64 0, Value.slice none 0 0, Value.slice none 0 0] 36) = W0 at *
  refine Calls.mono (specMgrOk_any _ _ _ m _ (h.stays b0)) ?_
  rintro e w1 ⟨⟨q, rfl, hq⟩, hb1⟩
  have b1 := b0.trans (hb1.mono b0.size)
  have r1 := r0.of_block (hb1.block _ hz0)
  have hz1 := hb1.size
  have p1 := pB.stays hb1
  have k0' := cell_stays hb1 k0
  have k1' := cell_stays hb1 k1
  clear r0 hb1 x0 x1 x2 x3 x4 pB k0 k1
  change Hid _ at hq
  cases q with
  | false =>
    have hno : ¬ mgrOk m := fun hh => by have := hq.out.2 hh; exact absurd this (by decide)
    have HB : Hid (RW m md0 tx t r val 1) := .inr (.inl ⟨.inl hno, rfl, rfl⟩)
    clear hq hno p1
    have c0x := r1.cell (show 0 < 5 by omega)
    have c1x := r1.cell (show 1 < 5 by omega)
    have c2x := r1.cell (show 2 < 5 by omega)
    have c3x := r1.cell (show 3 < 5 by omega)
    have c4x := r1.cell (show 4 < 5 by omega)
    have f0 := r1.frozen 0
    have f1 := r1.frozen 1
    have f2 := r1.frozen 2
    have f3 := r1.frozen 3
    have f4 := r1.frozen 4
    have hzr := r1.lt
    go_wp2
    have OF := OwnM.none w.heap.size (((((w1.setCell ⟨w.heap.size + 1 + 1, 0, none⟩ (.slice none 0 0)).setCell ⟨w.heap.size + 1 + 1, 1, none⟩ (.int .i64 0)).setCell ⟨w.heap.size + 1 + 1, 2, none⟩ (.int .i64 0)).setCell ⟨w.heap.size + 1 + 1, 3, none⟩ (.slice none 0 0)).setCell ⟨w.heap.size + 1 + 1, 4, none⟩ (.slice none 0 0)) (by have := b1.size; simp only [size_setCell]; omega)
    refine bodyPost_ret (v := .tuple #[.agg #[.slice none 0 0, .int .i64 0, .int .i64 0, .slice none 0 0, .slice none 0 0], .int .i64 1]) (by simp [results, Tryz.results18, go_sem, c0x, c1x, c2x, c3x, c4x]) rfl ⟨_, md0, _, rfl, ⟨_, _, _, _, _, _, rfl, OF⟩, HB.out, ?_⟩
    repeat (first | exact b1 | refine Below.setCell ?_ (by simp; omega) _)
  | true =>
    have hok : mgrOk m := hq.out.1 rfl
    have HO : Hid (mgrOk m) := hok
    clear hq
    change Hid _ at hok
    go_wp2_with fail
    refine Calls.mono (l2tx_any w.heap.size _ _ _ m tx _ p1 (h.stays b1).x) ?_
    rintro e w2 ⟨⟨x, rfl, hx⟩, rfl⟩
    rcases hx with ⟨rfl, hno⟩ | ⟨i, rfl, hi⟩
    · have HB : Hid (RW m md0 tx t r val 1) := .inr (.inl ⟨.inr (.inl hno), rfl, rfl⟩)
      clear hno p1
      have c0x := r1.cell (show 0 < 5 by omega)
      have c1x := r1.cell (show 1 < 5 by omega)
      have c2x := r1.cell (show 2 < 5 by omega)
      have c3x := r1.cell (show 3 < 5 by omega)
      have c4x := r1.cell (show 4 < 5 by omega)
      have f0 := r1.frozen 0
      have f1 := r1.frozen 1
      have f2 := r1.frozen 2
      have f3 := r1.frozen 3
      have f4 := r1.frozen 4
      have hzr := r1.lt
      go_wp2
      have OF := OwnM.none w.heap.size (((((w2.setCell ⟨w.heap.size + 1 + 1, 0, none⟩ (.slice none 0 0)).setCell ⟨w.heap.size + 1 + 1, 1, none⟩ (.int .i64 0)).setCell ⟨w.heap.size + 1 + 1, 2, none⟩ (.int .i64 0)).setCell ⟨w.heap.size + 1 + 1, 3, none⟩ (.slice none 0 0)).setCell ⟨w.heap.size + 1 + 1, 4, none⟩ (.slice none 0 0)) (by have := b1.size; simp only [size_setCell]; omega)
      refine bodyPost_ret (v := .tuple #[.agg #[.slice none 0 0, .int .i64 0, .int .i64 0, .slice none 0 0, .slice none 0 0], .int .i64 1]) (by simp [results, Tryz.results18, go_sem, c0x, c1x, c2x, c3x, c4x]) rfl ⟨_, md0, _, rfl, ⟨_, _, _, _, _, _, rfl, OF⟩, HB.out, ?_⟩
      repeat (first | exact b1 | refine Below.setCell ?_ (by simp; omega) _)
    · have HI : Hid (IsTx m tx i) := hi
      have hi0 : ¬ (i : Int) < 0 := by omega
      clear hi
      by_cases ht : tabB t = true
      · have HT : Hid (tabB t = true) := ht
        go_wp2_with fail
        refine Calls.mono (l1table_any t r _) ?_
        rw [ht]
        rintro e w3 ⟨rfl, hb3⟩
        have b3 := b1.trans (hb3.mono b1.size)
        have r3 := r1.of_block (hb3.block _ (by omega))
        obtain ⟨x0, x1, x2, x3, x4⟩ := p1.stays hb3
        have g0 := cell_stays hb3 k0'
        have g1 := cell_stays hb3 k1'
        have hz3 := hb3.size
        clear ht p1 k0' k1' r1 b1 hb3
        go_wp2_with fail
        refine Calls.mono (l2own_any _ _ _ m _ (h.stays b3) hn HO.out) ?_
        rintro e w4 ⟨v, rfl, ⟨s0, s1, vs1, vt1, ve1, wv1, rfl, O2⟩, hb4⟩
        have b4 := b3.trans (hb4.mono b3.size)
        have r4 := r3.of_block (hb4.block _ (by omega))
        have y0 := cell_stays hb4 g0
        have y1 := cell_stays hb4 g1
        have hz4 := hb4.size
        clear r3 b3 x0 x1 x2 x3 x4 hb4 g0 g1
        have P2 := PtrM.ofOwn O2
        have bA := below_alM w4 (Obj.cells #[vs1, .int .i64 m.c, .int .i64 m.n, vt1, ve1] 36)
        have b5 := b4.trans (bA.mono b4.size)
        have r5 := r4.of_block (bA.block _ r4.lt)
        have y0' := cell_stays bA y0
        have y1' := cell_stays bA y1
        have hM5 := P2.own.mat hn.room
        obtain ⟨⟨a1', c1', rfl⟩, ⟨a2', c2', rfl⟩, ⟨a3', c3', rfl⟩⟩ := P2.own.slices2
        have hz5 := bA.size
        have hKw : w.heap.size + 1 < w3.heap.size := by omega
        clear O2 r4 b4 bA y0 y1
        go_wp2_with fail
        generalize w4.alloc (Obj.cells #[.slice a1' m.s.length c1', .int .i64 m.c, .int .i64 m.n, .slice a2' m.x.length c2', .slice a3' m.h.length c3'] 36) = W5 at *
        have bD := (Below.refl W5.heap.size W5).drew
        refine region_all (fun x => x.cell? ⟨w.heap.size + 1, 0, none⟩ = some (.int .i64 t) ∧ x.cell? ⟨w.heap.size + 1, 1, none⟩ = some (.int .i64 r)) (by kernel_rfl) ⟨cell_stays bD y0', cell_stays bD y1'⟩ (fun hHeld0 => ?_)
        simp only [List.length_cons, List.length_nil, Nat.reduceAdd]
        refine takeL (i := 0) (v := ?_) rfl (by kernel_rfl) (by kernel_rfl) (by kernel_rfl) (fun _ _ _ h => h) rfl (by assumption) ?_ ?_
        rotate_left
        · (intro wS hSw; (try dsimp only at hSw); go_simp; try with_reducible rfl)
        (try simp only [Act.put, List.setIfInBounds_toArray, List.set_cons_zero, List.set_cons_succ])
        refine takeL (i := 2) (v := ?_) rfl (by kernel_rfl) (by kernel_rfl) (by kernel_rfl) (fun _ _ _ h => h) rfl (by assumption) ?_ ?_
        rotate_left
        · (intro wS hSw; (try dsimp only at hSw); go_simp; try with_reducible rfl)
        (try simp only [Act.put, List.setIfInBounds_toArray, List.set_cons_zero, List.set_cons_succ])
        refine takeL (i := 3) (v := ?_) rfl (by kernel_rfl) (by kernel_rfl) (by kernel_rfl) (fun _ _ _ h => h) rfl (by assumption) ?_ ?_
        rotate_left
        · (intro wS hSw; (try dsimp only at hSw); go_simp; try with_reducible rfl)
        (try simp only [Act.put, List.setIfInBounds_toArray, List.set_cons_zero, List.set_cons_succ])
        refine stepL (i := 1) rfl (by kernel_rfl) (fun K hK => ?_)
        rw [if_pos (by rfl)]
        go_simp
        refine Calls.mono (l2tx_any w4.heap.size _ _ _ m tx _ (P2.mbox.stays bD) (hM5.x.stays bD)) ?_
        rintro e w6 ⟨⟨x, rfl, hx⟩, rfl⟩
        obtain rfl : x = (i : Int) := by
          rcases hx with ⟨rfl, hno⟩ | ⟨i', rfl, hi'⟩
          · exact (noTx_isTx hno HI.out).elim
          · rw [hi'.one HI.out]
        clear hx
        refine hK.out _ _ ⟨cell_stays bD y0', cell_stays bD y1'⟩ (fun hHeld1 => ?_)
        clear hK K hHeld0
        (try simp only [Act.put, List.setIfInBounds_toArray, List.set_cons_zero, List.set_cons_succ])
        refine stepL (i := 4) rfl (by kernel_rfl) (fun K hK => ?_)
        rw [if_pos (by rfl)]
        go_simp
        refine Calls.mono (l2write_in _ w4.heap.size s0 s1 _ _ _ m wv1 tx t r val i _ (P2.stays bD) hn.room HO.out HI.out HT.out) ?_
        rintro e w7 ⟨hb7, x, code, hR, rfl, hcase⟩
        have hz7 := hb7.size
        have b7 := b5.trans ((bD.mono (by have := b5.size; exact this)).trans (hb7.mono (by omega)))
        have hk7 : ∀ o u, W5.cell? ⟨w.heap.size + 1, o, none⟩ = some u → w7.cell? ⟨w.heap.size + 1, o, none⟩ = some u := fun o u hu => cell_same (hb7.block _ hKw) hu
        have r7 := r5.of_block (hb7.block _ (show w.heap.size + 1 + 1 < w3.heap.size by omega))
        have HB : Hid (RW m x tx t r val code) := hR
        clear hR
        refine hK.out _ _ ⟨hk7 _ _ y0', hk7 _ _ y1'⟩ (fun hHeld2 => ?_)
        clear hK K hHeld1
        (try simp only [Act.put, List.setIfInBounds_toArray, List.set_cons_zero, List.set_cons_succ])
        refine takeL (i := 5) (v := ?_) rfl (by kernel_rfl) (by kernel_rfl) (by kernel_rfl) (fun _ _ _ h => h) rfl (by assumption) ?_ ?_
        rotate_left
        · (intro wS hSw; (try dsimp only at hSw); go_simp; try with_reducible rfl)
        (try simp only [Act.put, List.setIfInBounds_toArray, List.set_cons_zero, List.set_cons_succ])
        refine wpAnyH_done (by kernel_rfl) ?_ _
        clear hHeld2 hk7 y0' y1' bD P2 hM5
        rcases hcase with ⟨rfl, t0, t1, vs7, vt7, ve7, wv7, P7⟩ | ⟨hc, rfl⟩
        · have O7 := P7.own
          obtain ⟨p0, _⟩ := P7.cell (j := 0) (by omega)
          obtain ⟨p1, _⟩ := P7.cell (j := 1) (by omega)
          obtain ⟨p2, _⟩ := P7.cell (j := 2) (by omega)
          obtain ⟨p3, _⟩ := P7.cell (j := 3) (by omega)
          obtain ⟨p4, _⟩ := P7.cell (j := 4) (by omega)
          simp only [bxf] at p0 p1 p2 p3 p4
          obtain ⟨⟨sa, sc, rfl⟩, ⟨ta, tc, rfl⟩, ⟨ea, ec, rfl⟩⟩ := O7.slices2
          clear P7
          have c0x := r7.cell (show 0 < 5 by omega)
          have c1x := r7.cell (show 1 < 5 by omega)
          have c2x := r7.cell (show 2 < 5 by omega)
          have c3x := r7.cell (show 3 < 5 by omega)
          have c4x := r7.cell (show 4 < 5 by omega)
          have f0 := r7.frozen 0
          have f1 := r7.frozen 1
          have f2 := r7.frozen 2
          have f3 := r7.frozen 3
          have f4 := r7.frozen 4
          go_wp2
          obtain ⟨kz, kk⟩ := boxed_keep0 w7 (w.heap.size + 1 + 1) (.slice sa x.s.length sc) (.int .i64 x.c) (.int .i64 x.n) (.slice ta x.x.length tc) (.slice ea x.h.length ec)
          have OF := (O7.keep (fun k h1 h2 => kk k (by omega) h2) kz).mono (base' := w.heap.size) (by omega)
          refine bodyPost_ret (v := .tuple #[.agg #[.slice sa x.s.length sc, .int .i64 x.c, .int .i64 x.n, .slice ta x.x.length tc, .slice ea x.h.length ec], .int .i64 0]) (by simp [results, Tryz.results18, go_sem, c0x, c1x, c2x, c3x, c4x]) rfl ⟨_, x, _, rfl, ⟨t0, t1, _, _, _, _, rfl, OF⟩, HB.out, ?_⟩
          repeat (first | exact b7 | refine Below.setCell ?_ (by simp; omega) _)
        · have hcb : (code == 0) = false := by simpa using hc
          have c0x := r7.cell (show 0 < 5 by omega)
          have c1x := r7.cell (show 1 < 5 by omega)
          have c2x := r7.cell (show 2 < 5 by omega)
          have c3x := r7.cell (show 3 < 5 by omega)
          have c4x := r7.cell (show 4 < 5 by omega)
          have f0 := r7.frozen 0
          have f1 := r7.frozen 1
          have f2 := r7.frozen 2
          have f3 := r7.frozen 3
          have f4 := r7.frozen 4
          have hzr := r7.lt
          go_wp2
          have OF := OwnM.none w.heap.size (((((w7.setCell ⟨w.heap.size + 1 + 1, 0, none⟩ (.slice none 0 0)).setCell ⟨w.heap.size + 1 + 1, 1, none⟩ (.int .i64 0)).setCell ⟨w.heap.size + 1 + 1, 2, none⟩ (.int .i64 0)).setCell ⟨w.heap.size + 1 + 1, 3, none⟩ (.slice none 0 0)).setCell ⟨w.heap.size + 1 + 1, 4, none⟩ (.slice none 0 0)) (by have := b7.size; simp only [size_setCell]; omega)
          refine bodyPost_ret (v := .tuple #[.agg #[.slice none 0 0, .int .i64 0, .int .i64 0, .slice none 0 0, .slice none 0 0], .int .i64 code]) (by simp [results, Tryz.results18, go_sem, c0x, c1x, c2x, c3x, c4x]) rfl ⟨_, md0, _, rfl, ⟨_, _, _, _, _, _, rfl, OF⟩, HB.out, ?_⟩
          repeat (first | exact b7 | refine Below.setCell ?_ (by simp; omega) _)
      · have HB : Hid (RW m md0 tx t r val 1) := .inr (.inl ⟨.inr (.inr ht), rfl, rfl⟩)
        have ht' : tabB t = false := by simpa using ht
        go_wp2_with fail
        refine Calls.mono (l1table_any t r _) ?_
        rw [ht']
        rintro e w3 ⟨rfl, hb3⟩
        have b3 := b1.trans (hb3.mono b1.size)
        have r3 := r1.of_block (hb3.block _ (by omega))
        clear ht ht' p1 k0' k1' r1 b1 hb3
        have c0x := r3.cell (show 0 < 5 by omega)
        have c1x := r3.cell (show 1 < 5 by omega)
        have c2x := r3.cell (show 2 < 5 by omega)
        have c3x := r3.cell (show 3 < 5 by omega)
        have c4x := r3.cell (show 4 < 5 by omega)
        have f0 := r3.frozen 0
        have f1 := r3.frozen 1
        have f2 := r3.frozen 2
        have f3 := r3.frozen 3
        have f4 := r3.frozen 4
        have hzr := r3.lt
        go_wp2
        have OF := OwnM.none w.heap.size (((((w3.setCell ⟨w.heap.size + 1 + 1, 0, none⟩ (.slice none 0 0)).setCell ⟨w.heap.size + 1 + 1, 1, none⟩ (.int .i64 0)).setCell ⟨w.heap.size + 1 + 1, 2, none⟩ (.int .i64 0)).setCell ⟨w.heap.size + 1 + 1, 3, none⟩ (.slice none 0 0)).setCell ⟨w.heap.size + 1 + 1, 4, none⟩ (.slice none 0 0)) (by have := b3.size; simp only [size_setCell]; omega)
        refine bodyPost_ret (v := .tuple #[.agg #[.slice none 0 0, .int .i64 0, .int .i64 0, .slice none 0 0, .slice none 0 0], .int .i64 1]) (by simp [results, Tryz.results18, go_sem, c0x, c1x, c2x, c3x, c4x]) rfl ⟨_, md0, _, rfl, ⟨_, _, _, _, _, _, rfl, OF⟩, HB.out, ?_⟩
        repeat (first | exact b3 | refine Below.setCell ?_ (by simp; omega) _)
end Go.Proofs.YtmecbppblbmchaaGreatDoor
