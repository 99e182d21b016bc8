import Derived.Test.YtmecbppblbmchaaGreatDoorReadPi
import Derived.Test.YtmecbppblbmchaaGreatDoorU6
import Derived.Test.YtmecbppblbmchaaGreatDoorDLaw
import Derived.Test.YtmecbppblbmchaaGreatDoorExBegin
import Derived.Deep.CutRange
/- For every state of the whole, where the cell of errors.As is laid, the exact law of TxWrite returns true. -/
namespace Go.Proofs.YtmecbppblbmchaaGreatDoor
open Go.ChangeShapes Go.WideShapes Go.ChangeAt Go.RowKit Go.Sort
set_option linter.unusedVariables false
set_option maxRecDepth 100000
attribute [local go_sem ↓] Go.wp_at_zero Go.wp_at_succ

theorem RW.small {m x : Md} {tx t r v code : Int} (h : RW m x tx t r v code) (hn : SmallM m) : SmallM' x := by
  have h0 : SmallM' md0 := ⟨⟨by simp [md0], fun i hi => absurd hi (by simp [md0])⟩, by simp [md0], fun i hi => absurd hi (by simp [md0]), by simp [md0]⟩
  rcases h with ⟨_, _, _, i, hi, _, rfl, _⟩ | ⟨_, rfl, _⟩ | ⟨_, _, _, rfl, _⟩
  · have hl : (wrM m tx i t r v).x.length = m.x.length := by simp [wrM, putW]
    refine ⟨hn.s, by have := hn.x; rw [hl]; omega, fun j hj => ?_, by have := hn.h; simp only [wrM, List.length_append, List.length_cons, List.length_nil]; omega⟩
    rw [hl] at hj
    simp only [wrM, putW, tAt_set _ _ _ _ hi.1]
    by_cases e : j = i
    · subst e
      simp only [if_true]
      have h1 := rowsL_length ((tAt m.x j).w ++ [⟨t, r, v⟩]) ((tAt m.x j).w ++ [(⟨t, r, v⟩ : Rw)]).length
      have h2 := hn.w j hj
      rw [List.length_append, List.length_singleton] at h1
      show (wrL _ _ _ _).length ≤ _
      unfold wrL
      rw [List.length_append, List.length_singleton]
      omega
    · simp only [if_neg e]
      have := hn.w j hj
      omega
  · exact h0
  · exact h0

set_option maxHeartbeats 16000000 in
theorem exactTxWrite_any (vs vt ve : Value) (m : Md) (tx t r val : Int) (w : World) {lo hi : Nat} (h : MAt lo hi w vs vt ve m)  (hL : Laid w) :
    Calls Tryz.prog 5 #[.agg #[vs, .int .i64 m.c, .int .i64 m.n, vt, ve], .int .i64 tx, .agg #[.int .i64 t, .int .i64 r], .int .i64 val] w fun e w' => e = .returned (.bool true) ∧ Below w.heap.size w w' := by
  obtain ⟨a1, cap1, hv1⟩ : ∃ a cap, vs = .slice a m.s.length cap := by obtain ⟨a, cap, h1, _⟩ := h.s; exact ⟨a, cap, h1⟩
  obtain ⟨a2, cap2, hv2⟩ : ∃ a cap, vt = .slice a m.x.length cap := by obtain ⟨a, cap, h1, _⟩ := h.x; exact ⟨a, cap, h1⟩
  obtain ⟨a3, cap3, hv3⟩ : ∃ a cap, ve = .slice a m.h.length cap := by obtain ⟨a, cap, h1, _⟩ := h.h; exact ⟨a, cap, h1⟩
  subst hv1 hv2 hv3
  have b0 : Below w.heap.size w ((w.alloc (Obj.cells #[Value.slice a1 m.s.length cap1, .int .i64 m.c, .int .i64 m.n, Value.slice a2 m.x.length cap2, Value.slice a3 m.h.length cap3] 28)).alloc (Obj.cells #[Value.int IntKind.i64 t, Value.int IntKind.i64 r] 44)) := ((Below.refl _ _).alloc (Nat.le_refl _) _).alloc (by simp) _
  have p0 : MBox ((w.alloc (Obj.cells #[Value.slice a1 m.s.length cap1, .int .i64 m.c, .int .i64 m.n, Value.slice a2 m.x.length cap2, Value.slice a3 m.h.length cap3] 28)).alloc (Obj.cells #[Value.int IntKind.i64 t, Value.int IntKind.i64 r] 44)) w.heap.size (.slice a1 m.s.length cap1) m.c m.n (.slice a2 m.x.length cap2) (.slice a3 m.h.length cap3) := ⟨by simp [go_sem], by simp [go_sem], by simp [go_sem], by simp [go_sem], by simp [go_sem]⟩
  have k0 : KBox ((w.alloc (Obj.cells #[Value.slice a1 m.s.length cap1, .int .i64 m.c, .int .i64 m.n, Value.slice a2 m.x.length cap2, Value.slice a3 m.h.length cap3] 28)).alloc (Obj.cells #[Value.int IntKind.i64 t, Value.int IntKind.i64 r] 44)) (w.heap.size + 1) t r := ⟨by simp [go_sem], by simp [go_sem]⟩
  have z0 : w.heap.size + 2 ≤ ((w.alloc (Obj.cells #[Value.slice a1 m.s.length cap1, .int .i64 m.c, .int .i64 m.n, Value.slice a2 m.x.length cap2, Value.slice a3 m.h.length cap3] 28)).alloc (Obj.cells #[Value.int IntKind.i64 t, Value.int IntKind.i64 r] 44)).heap.size := by simp
  obtain ⟨x0, x1, x2, x3, x4⟩ := id p0
  go_enter Tryz.func5, Tryz.ntmps5
  go_wp2_with fail
  generalize (w.alloc (Obj.cells #[Value.slice a1 m.s.length cap1, .int .i64 m.c, .int .i64 m.n, Value.slice a2 m.x.length cap2, Value.slice a3 m.h.length cap3] 28)).alloc (Obj.cells #[Value.int IntKind.i64 t, Value.int IntKind.i64 r] 44) = W0 at *
  refine (szMgr_any _ _ _ m _ (h.stays b0) _ (by omega) (by omega)).mono ?_
  rintro e w1 ⟨q, rfl, hq1, hq2, hb1⟩
  have b1 := b0.trans (hb1.mono b0.size)
  have p1 := p0.stays hb1
  have k1 := k0.stays hb1
  have z1 : w.heap.size + 2 ≤ w1.heap.size := Nat.le_trans z0 hb1.size
  clear b0 p0 hb1 k0 z0 x0 x1 x2 x3 x4
  by_cases hneg : q < 0
  · go_wp2
    go_ret
    exact ⟨rfl, b1⟩
  have hs := hq2 (by omega)
  clear hq2
  obtain ⟨r0, r1, r2, r3, r4⟩ := id p1
  obtain ⟨r5, r6⟩ := id k1
  go_upto_region 5 with (fail)
  go_cut [10, 11] from 25 to 34 (fun t10 t11 wc => ∃ V o code vs3 vt3 ve3 lo3 hi3 s3 p3 wv3, t10 = .pointer (some ⟨V, 0, none⟩) ∧ t11 = .int .i64 code ∧ RW m o tx t r val code ∧ BoxA w1 wc V vs3 vt3 ve3 o lo3 hi3 s3 p3 wv3)
  case first =>
    have t0 : Below w1.heap.size w1 w1.drew := (Below.refl _ _).drew
    have TA : ∀ x, Below w1.heap.size w1 x → x.cell? ⟨w.heap.size, 0, none⟩ = some (.slice a1 m.s.length cap1) ∧ x.cell? ⟨w.heap.size, 1, none⟩ = some (.int .i64 m.c) ∧ x.cell? ⟨w.heap.size, 2, none⟩ = some (.int .i64 m.n) ∧ x.cell? ⟨w.heap.size, 3, none⟩ = some (.slice a2 m.x.length cap2) ∧ x.cell? ⟨w.heap.size, 4, none⟩ = some (.slice a3 m.h.length cap3) ∧ x.cell? ⟨w.heap.size + 1, 0, none⟩ = some (.int .i64 t) ∧ x.cell? ⟨w.heap.size + 1, 1, none⟩ = some (.int .i64 r) := fun x hx => ⟨cell_stays hx r0, cell_stays hx r1, cell_stays hx r2, cell_stays hx r3, cell_stays hx r4, cell_stays hx r5, cell_stays hx r6⟩
    refine region_all (fun x => x.cell? ⟨w.heap.size, 0, none⟩ = some (.slice a1 m.s.length cap1) ∧ x.cell? ⟨w.heap.size, 1, none⟩ = some (.int .i64 m.c) ∧ x.cell? ⟨w.heap.size, 2, none⟩ = some (.int .i64 m.n) ∧ x.cell? ⟨w.heap.size, 3, none⟩ = some (.slice a2 m.x.length cap2) ∧ x.cell? ⟨w.heap.size, 4, none⟩ = some (.slice a3 m.h.length cap3) ∧ x.cell? ⟨w.heap.size + 1, 0, none⟩ = some (.int .i64 t) ∧ x.cell? ⟨w.heap.size + 1, 1, none⟩ = some (.int .i64 r)) (by kernel_rfl) (TA _ (Below.refl _ _).drew) (fun hHeld0 => ?_)
    simp only [List.length_cons, List.length_nil, Nat.reduceAdd]
    refine takeL (i := 0) (v := ?_) rfl (by kernel_rfl) (by kernel_rfl) (by kernel_rfl) (fun _ _ _ h => h) rfl (by assumption) ?_ ?_
    rotate_left
    · (intro wS hSw; (try dsimp only at hSw); go_simp; try with_reducible rfl)
    (try simp only [Act.put, List.setIfInBounds_toArray, List.set_cons_zero, List.set_cons_succ])
    refine takeL (i := 2) (v := ?_) rfl (by kernel_rfl) (by kernel_rfl) (by kernel_rfl) (fun _ _ _ h => h) rfl (by assumption) ?_ ?_
    rotate_left
    · (intro wS hSw; (try dsimp only at hSw); go_simp; try with_reducible rfl)
    (try simp only [Act.put, List.setIfInBounds_toArray, List.set_cons_zero, List.set_cons_succ])
    refine takeL (i := 3) (v := ?_) rfl (by kernel_rfl) (by kernel_rfl) (by kernel_rfl) (fun _ _ _ h => h) rfl (by assumption) ?_ ?_
    rotate_left
    · (intro wS hSw; (try dsimp only at hSw); go_simp; try with_reducible rfl)
    (try simp only [Act.put, List.setIfInBounds_toArray, List.set_cons_zero, List.set_cons_succ])
    refine takeL (i := 5) (v := ?_) rfl (by kernel_rfl) (by kernel_rfl) (by kernel_rfl) (fun _ _ _ h => h) rfl (by assumption) ?_ ?_
    rotate_left
    · (intro wS hSw; (try dsimp only at hSw); go_simp; try with_reducible rfl)
    (try simp only [Act.put, List.setIfInBounds_toArray, List.set_cons_zero, List.set_cons_succ])
    refine step2L (i := 1) (j := 10) rfl rfl (by kernel_rfl) (fun K hK => ?_) (fun K hK => ?_)
    · rw [if_pos (by rfl)]
      go_simp
      refine Calls.mono (toMgr_own _ _ _ m _ (h.stays (b1.trans (t0.mono b1.size))) hs) ?_
      rintro e y1 ⟨bs1, Bs1, bt1, Bt1, be1, rfl, hv1, q1⟩
      have m1 := hv1.at hs m.s.length m.x.length m.h.length
      have t1 : Below w1.heap.size w1 y1 := t0.trans (q1.mono t0.size)
      refine hK.out _ _ (TA _ t1) (fun hHeld1 => ?_)
      clear hK K hHeld0
      (try simp only [Act.put, List.setIfInBounds_toArray, List.set_cons_zero, List.set_cons_succ])
      refine step2L (i := 4) (j := 10) rfl rfl (by kernel_rfl) (fun K hK => ?_) (fun K hK => ?_)
      · rw [if_pos (by rfl)]
        go_simp
        refine Calls.mono (toKey_any t r _) ?_
        rintro e y2 ⟨rfl, q2⟩
        have m2 := m1.stays q2
        have t2 : Below w1.heap.size w1 y2 := t1.trans (q2.mono t1.size)
        refine hK.out _ _ (TA _ t2) (fun hHeld2 => ?_)
        clear hK K hHeld1
        (try simp only [Act.put, List.setIfInBounds_toArray, List.set_cons_zero, List.set_cons_succ])
        refine step2L (i := 6) (j := 10) rfl rfl (by kernel_rfl) (fun K hK => ?_) (fun K hK => ?_)
        · rw [if_pos (by rfl)]
          go_simp
          refine Calls.mono (specTxWrite_any _ _ _ m tx t r val _ m2 hs) ?_
          rintro e y3 ⟨v3, o3, code3, rfl, ⟨sa3, sb3, vs3, vt3, ve3, wv3, rfl, O3⟩, R3, q3⟩
          obtain ⟨⟨aa3, ca3, rfl⟩, ⟨ab3, cb3, rfl⟩, ⟨ac3, cc3, rfl⟩⟩ := O3.slices2
          have bl3 : w1.heap.size ≤ y2.heap.size := t2.size
          have t3 : Below w1.heap.size w1 y3 := t2.trans (q3.mono t2.size)
          refine hK.out _ _ (TA _ t3) (fun hHeld3 => ?_)
          clear hK K hHeld2
          (try simp only [Act.put, List.setIfInBounds_toArray, List.set_cons_zero, List.set_cons_succ])
          refine takeL (i := 7) (v := ?_) rfl (by kernel_rfl) (by kernel_rfl) (by kernel_rfl) (fun _ _ _ h => h) rfl (by assumption) ?_ ?_
          rotate_left
          · (intro wS hSw; (try dsimp only at hSw); go_simp; try with_reducible rfl)
          (try simp only [Act.put, List.setIfInBounds_toArray, List.set_cons_zero, List.set_cons_succ])
          refine takeL (i := 8) (v := ?_) rfl (by kernel_rfl) (by kernel_rfl) (by kernel_rfl) (fun _ _ _ h => h) rfl (by assumption) ?_ ?_
          rotate_left
          · (intro wS hSw; (try dsimp only at hSw); go_simp; try with_reducible rfl)
          (try simp only [Act.put, List.setIfInBounds_toArray, List.set_cons_zero, List.set_cons_succ])
          refine takeL (i := 9) (v := ?_) rfl (by kernel_rfl) (by kernel_rfl) (by kernel_rfl) (fun _ _ _ h => h) rfl (by assumption) ?_ ?_
          rotate_left
          · (intro wS hSw; (try dsimp only at hSw); go_simp; try with_reducible rfl)
          (try simp only [Act.put, List.setIfInBounds_toArray, List.set_cons_zero, List.set_cons_succ])
          refine stepL (i := 10) rfl (by kernel_rfl) (fun K hK => ?_)
          rw [if_pos (by rfl)]
          go_simp
          have q4 := below_alM (y3) (Obj.cells #[Value.slice none 0 0, .int .i64 0, .int .i64 0, Value.slice none 0 0, Value.slice none 0 0] 36)
          have t4 : Below w1.heap.size w1 ((y3).alloc (Obj.cells #[Value.slice none 0 0, .int .i64 0, .int .i64 0, Value.slice none 0 0, Value.slice none 0 0] 36)) := t3.trans (q4.mono t3.size)
          have r4 : RowOf ((y3).alloc (Obj.cells #[Value.slice none 0 0, .int .i64 0, .int .i64 0, Value.slice none 0 0, Value.slice none 0 0] 36)) y3.heap.size 36 5 (bxf nilV 0 0 nilV nilV) := ⟨_, Deep.blk_alloc_new _ _, by simp, fun j hj => by
        match j, hj with
        | 0, _ => rfl
        | 1, _ => rfl
        | 2, _ => rfl
        | 3, _ => rfl
        | 4, _ => rfl⟩
          have v4 : w1.heap.size ≤ y3.heap.size := t3.size
          have l4 : y3.heap.size < ((y3).alloc (Obj.cells #[Value.slice none 0 0, .int .i64 0, .int .i64 0, Value.slice none 0 0, Value.slice none 0 0] 36)).heap.size := by simp
          refine hK.out _ _ (TA _ t4) (fun hHeld4 => ?_)
          clear hK K hHeld3
          (try simp only [Act.put, List.setIfInBounds_toArray, List.set_cons_zero, List.set_cons_succ])
          refine stepL (i := 11) rfl (by kernel_rfl) (fun K hK => ?_)
          rw [if_pos (by rfl)]
          have A := boxA_new O3 t3 bl3
          go_simp
          have TF : Below w1.heap.size w1 _ := A.b
          refine hK.out _ _ (TA _ A.b) (fun hHeldZ => ?_)
          clear hK K hHeld4
          (try simp only [Act.put, List.setIfInBounds_toArray, List.set_cons_zero, List.set_cons_succ])
          refine takeL (i := 12) (v := ?_) rfl (by kernel_rfl) (by kernel_rfl) (by kernel_rfl) (fun _ _ _ h => h) rfl (by assumption) ?_ ?_
          rotate_left
          · (intro wS hSw; (try dsimp only at hSw); go_simp; try with_reducible rfl)
          (try simp only [Act.put, List.setIfInBounds_toArray, List.set_cons_zero, List.set_cons_succ])
          refine wpAnyH_done (by kernel_rfl) ?_ _
          go_wp2
          go_meet
          case rel => exact ⟨_, _, _, _, _, _, _, _, _, _, _, rfl, rfl, R3, A⟩
        · rw [if_pos (by rfl)]
          go_simp
          have q5 := below_alM (y2) (Obj.cells #[Value.slice none 0 0, .int .i64 0, .int .i64 0, Value.slice none 0 0, Value.slice none 0 0] 36)
          have t5 : Below w1.heap.size w1 ((y2).alloc (Obj.cells #[Value.slice none 0 0, .int .i64 0, .int .i64 0, Value.slice none 0 0, Value.slice none 0 0] 36)) := t2.trans (q5.mono t2.size)
          have r5 : RowOf ((y2).alloc (Obj.cells #[Value.slice none 0 0, .int .i64 0, .int .i64 0, Value.slice none 0 0, Value.slice none 0 0] 36)) y2.heap.size 36 5 (bxf nilV 0 0 nilV nilV) := ⟨_, Deep.blk_alloc_new _ _, by simp, fun j hj => by
        match j, hj with
        | 0, _ => rfl
        | 1, _ => rfl
        | 2, _ => rfl
        | 3, _ => rfl
        | 4, _ => rfl⟩
          have v5 : w1.heap.size ≤ y2.heap.size := t2.size
          have l5 : y2.heap.size < ((y2).alloc (Obj.cells #[Value.slice none 0 0, .int .i64 0, .int .i64 0, Value.slice none 0 0, Value.slice none 0 0] 36)).heap.size := by simp
          have m5 := m2.stays q5
          refine hK.out _ _ (TA _ t5) (fun hHeld5 => ?_)
          clear hK K hHeld2
          (try simp only [Act.put, List.setIfInBounds_toArray, List.set_cons_zero, List.set_cons_succ])
          refine stepL (i := 6) rfl (by kernel_rfl) (fun K hK => ?_)
          rw [if_pos (by rfl)]
          go_simp
          refine Calls.mono (specTxWrite_any _ _ _ m tx t r val _ m5 hs) ?_
          rintro e y6 ⟨v6, o6, code6, rfl, ⟨sa6, sb6, vs6, vt6, ve6, wv6, rfl, O6⟩, R6, q6⟩
          obtain ⟨⟨aa6, ca6, rfl⟩, ⟨ab6, cb6, rfl⟩, ⟨ac6, cc6, rfl⟩⟩ := O6.slices2
          have bl6 : w1.heap.size ≤ ((y2).alloc (Obj.cells #[Value.slice none 0 0, .int .i64 0, .int .i64 0, Value.slice none 0 0, Value.slice none 0 0] 36)).heap.size := t5.size
          have t6 : Below w1.heap.size w1 y6 := t5.trans (q6.mono t5.size)
          have r6 := r5.of_block (q6.block _ l5)
          have l6 : y2.heap.size < y6.heap.size := Nat.lt_of_lt_of_le l5 q6.size
          refine hK.out _ _ (TA _ t6) (fun hHeld6 => ?_)
          clear hK K hHeld5
          (try simp only [Act.put, List.setIfInBounds_toArray, List.set_cons_zero, List.set_cons_succ])
          refine takeL (i := 7) (v := ?_) rfl (by kernel_rfl) (by kernel_rfl) (by kernel_rfl) (fun _ _ _ h => h) rfl (by assumption) ?_ ?_
          rotate_left
          · (intro wS hSw; (try dsimp only at hSw); go_simp; try with_reducible rfl)
          (try simp only [Act.put, List.setIfInBounds_toArray, List.set_cons_zero, List.set_cons_succ])
          refine takeL (i := 8) (v := ?_) rfl (by kernel_rfl) (by kernel_rfl) (by kernel_rfl) (fun _ _ _ h => h) rfl (by assumption) ?_ ?_
          rotate_left
          · (intro wS hSw; (try dsimp only at hSw); go_simp; try with_reducible rfl)
          (try simp only [Act.put, List.setIfInBounds_toArray, List.set_cons_zero, List.set_cons_succ])
          refine takeL (i := 9) (v := ?_) rfl (by kernel_rfl) (by kernel_rfl) (by kernel_rfl) (fun _ _ _ h => h) rfl (by assumption) ?_ ?_
          rotate_left
          · (intro wS hSw; (try dsimp only at hSw); go_simp; try with_reducible rfl)
          (try simp only [Act.put, List.setIfInBounds_toArray, List.set_cons_zero, List.set_cons_succ])
          refine stepL (i := 11) rfl (by kernel_rfl) (fun K hK => ?_)
          rw [if_pos (by rfl)]
          have z0 := r6.cell (show 0 < 5 by omega)
          have z1 := r6.cell (show 1 < 5 by omega)
          have z2 := r6.cell (show 2 < 5 by omega)
          have z3 := r6.cell (show 3 < 5 by omega)
          have z4 := r6.cell (show 4 < 5 by omega)
          have f0 := r6.frozen 0
          have f1 := r6.frozen 1
          have f2 := r6.frozen 2
          have f3 := r6.frozen 3
          have f4 := r6.frozen 4
          simp only [bxf] at z0 z1 z2 z3 z4
          have A := boxA_set O6 t6 (by omega) r6 v5
          go_simp
          have TF : Below w1.heap.size w1 _ := A.b
          refine hK.out _ _ (TA _ A.b) (fun hHeldZ => ?_)
          clear hK K hHeld6
          (try simp only [Act.put, List.setIfInBounds_toArray, List.set_cons_zero, List.set_cons_succ])
          refine takeL (i := 12) (v := ?_) rfl (by kernel_rfl) (by kernel_rfl) (by kernel_rfl) (fun _ _ _ h => h) rfl (by assumption) ?_ ?_
          rotate_left
          · (intro wS hSw; (try dsimp only at hSw); go_simp; try with_reducible rfl)
          (try simp only [Act.put, List.setIfInBounds_toArray, List.set_cons_zero, List.set_cons_succ])
          refine wpAnyH_done (by kernel_rfl) ?_ _
          go_wp2
          go_meet
          case rel => exact ⟨_, _, _, _, _, _, _, _, _, _, _, rfl, rfl, R6, A⟩
      · rw [if_pos (by rfl)]
        go_simp
        have q7 := below_alM (y1) (Obj.cells #[Value.slice none 0 0, .int .i64 0, .int .i64 0, Value.slice none 0 0, Value.slice none 0 0] 36)
        have t7 : Below w1.heap.size w1 ((y1).alloc (Obj.cells #[Value.slice none 0 0, .int .i64 0, .int .i64 0, Value.slice none 0 0, Value.slice none 0 0] 36)) := t1.trans (q7.mono t1.size)
        have r7 : RowOf ((y1).alloc (Obj.cells #[Value.slice none 0 0, .int .i64 0, .int .i64 0, Value.slice none 0 0, Value.slice none 0 0] 36)) y1.heap.size 36 5 (bxf nilV 0 0 nilV nilV) := ⟨_, Deep.blk_alloc_new _ _, by simp, fun j hj => by
        match j, hj with
        | 0, _ => rfl
        | 1, _ => rfl
        | 2, _ => rfl
        | 3, _ => rfl
        | 4, _ => rfl⟩
        have v7 : w1.heap.size ≤ y1.heap.size := t1.size
        have l7 : y1.heap.size < ((y1).alloc (Obj.cells #[Value.slice none 0 0, .int .i64 0, .int .i64 0, Value.slice none 0 0, Value.slice none 0 0] 36)).heap.size := by simp
        have m7 := m1.stays q7
        refine hK.out _ _ (TA _ t7) (fun hHeld7 => ?_)
        clear hK K hHeld1
        (try simp only [Act.put, List.setIfInBounds_toArray, List.set_cons_zero, List.set_cons_succ])
        refine stepL (i := 4) rfl (by kernel_rfl) (fun K hK => ?_)
        rw [if_pos (by rfl)]
        go_simp
        refine Calls.mono (toKey_any t r _) ?_
        rintro e y8 ⟨rfl, q8⟩
        have m8 := m7.stays q8
        have t8 : Below w1.heap.size w1 y8 := t7.trans (q8.mono t7.size)
        have r8 := r7.of_block (q8.block _ l7)
        have l8 : y1.heap.size < y8.heap.size := Nat.lt_of_lt_of_le l7 q8.size
        refine hK.out _ _ (TA _ t8) (fun hHeld8 => ?_)
        clear hK K hHeld7
        (try simp only [Act.put, List.setIfInBounds_toArray, List.set_cons_zero, List.set_cons_succ])
        refine stepL (i := 6) rfl (by kernel_rfl) (fun K hK => ?_)
        rw [if_pos (by rfl)]
        go_simp
        refine Calls.mono (specTxWrite_any _ _ _ m tx t r val _ m8 hs) ?_
        rintro e y9 ⟨v9, o9, code9, rfl, ⟨sa9, sb9, vs9, vt9, ve9, wv9, rfl, O9⟩, R9, q9⟩
        obtain ⟨⟨aa9, ca9, rfl⟩, ⟨ab9, cb9, rfl⟩, ⟨ac9, cc9, rfl⟩⟩ := O9.slices2
        have bl9 : w1.heap.size ≤ y8.heap.size := t8.size
        have t9 : Below w1.heap.size w1 y9 := t8.trans (q9.mono t8.size)
        have r9 := r8.of_block (q9.block _ l8)
        have l9 : y1.heap.size < y9.heap.size := Nat.lt_of_lt_of_le l8 q9.size
        refine hK.out _ _ (TA _ t9) (fun hHeld9 => ?_)
        clear hK K hHeld8
        (try simp only [Act.put, List.setIfInBounds_toArray, List.set_cons_zero, List.set_cons_succ])
        refine takeL (i := 7) (v := ?_) rfl (by kernel_rfl) (by kernel_rfl) (by kernel_rfl) (fun _ _ _ h => h) rfl (by assumption) ?_ ?_
        rotate_left
        · (intro wS hSw; (try dsimp only at hSw); go_simp; try with_reducible rfl)
        (try simp only [Act.put, List.setIfInBounds_toArray, List.set_cons_zero, List.set_cons_succ])
        refine takeL (i := 8) (v := ?_) rfl (by kernel_rfl) (by kernel_rfl) (by kernel_rfl) (fun _ _ _ h => h) rfl (by assumption) ?_ ?_
        rotate_left
        · (intro wS hSw; (try dsimp only at hSw); go_simp; try with_reducible rfl)
        (try simp only [Act.put, List.setIfInBounds_toArray, List.set_cons_zero, List.set_cons_succ])
        refine takeL (i := 9) (v := ?_) rfl (by kernel_rfl) (by kernel_rfl) (by kernel_rfl) (fun _ _ _ h => h) rfl (by assumption) ?_ ?_
        rotate_left
        · (intro wS hSw; (try dsimp only at hSw); go_simp; try with_reducible rfl)
        (try simp only [Act.put, List.setIfInBounds_toArray, List.set_cons_zero, List.set_cons_succ])
        refine stepL (i := 11) rfl (by kernel_rfl) (fun K hK => ?_)
        rw [if_pos (by rfl)]
        have z0 := r9.cell (show 0 < 5 by omega)
        have z1 := r9.cell (show 1 < 5 by omega)
        have z2 := r9.cell (show 2 < 5 by omega)
        have z3 := r9.cell (show 3 < 5 by omega)
        have z4 := r9.cell (show 4 < 5 by omega)
        have f0 := r9.frozen 0
        have f1 := r9.frozen 1
        have f2 := r9.frozen 2
        have f3 := r9.frozen 3
        have f4 := r9.frozen 4
        simp only [bxf] at z0 z1 z2 z3 z4
        have A := boxA_set O9 t9 (by omega) r9 v7
        go_simp
        have TF : Below w1.heap.size w1 _ := A.b
        refine hK.out _ _ (TA _ A.b) (fun hHeldZ => ?_)
        clear hK K hHeld9
        (try simp only [Act.put, List.setIfInBounds_toArray, List.set_cons_zero, List.set_cons_succ])
        refine takeL (i := 12) (v := ?_) rfl (by kernel_rfl) (by kernel_rfl) (by kernel_rfl) (fun _ _ _ h => h) rfl (by assumption) ?_ ?_
        rotate_left
        · (intro wS hSw; (try dsimp only at hSw); go_simp; try with_reducible rfl)
        (try simp only [Act.put, List.setIfInBounds_toArray, List.set_cons_zero, List.set_cons_succ])
        refine wpAnyH_done (by kernel_rfl) ?_ _
        go_wp2
        go_meet
        case rel => exact ⟨_, _, _, _, _, _, _, _, _, _, _, rfl, rfl, R9, A⟩
    · rw [if_pos (by rfl)]
      go_simp
      have q10 := below_alM (w1.drew) (Obj.cells #[Value.slice none 0 0, .int .i64 0, .int .i64 0, Value.slice none 0 0, Value.slice none 0 0] 36)
      have t10 : Below w1.heap.size w1 ((w1.drew).alloc (Obj.cells #[Value.slice none 0 0, .int .i64 0, .int .i64 0, Value.slice none 0 0, Value.slice none 0 0] 36)) := t0.trans (q10.mono t0.size)
      have r10 : RowOf ((w1.drew).alloc (Obj.cells #[Value.slice none 0 0, .int .i64 0, .int .i64 0, Value.slice none 0 0, Value.slice none 0 0] 36)) w1.heap.size 36 5 (bxf nilV 0 0 nilV nilV) := ⟨_, Deep.blk_alloc_new _ _, by simp, fun j hj => by
        match j, hj with
        | 0, _ => rfl
        | 1, _ => rfl
        | 2, _ => rfl
        | 3, _ => rfl
        | 4, _ => rfl⟩
      have v10 : w1.heap.size ≤ w1.heap.size := t0.size
      have l10 : w1.heap.size < ((w1.drew).alloc (Obj.cells #[Value.slice none 0 0, .int .i64 0, .int .i64 0, Value.slice none 0 0, Value.slice none 0 0] 36)).heap.size := by simp
      refine hK.out _ _ (TA _ t10) (fun hHeld10 => ?_)
      clear hK K hHeld0
      (try simp only [Act.put, List.setIfInBounds_toArray, List.set_cons_zero, List.set_cons_succ])
      refine stepL (i := 1) rfl (by kernel_rfl) (fun K hK => ?_)
      rw [if_pos (by rfl)]
      go_simp
      refine Calls.mono (toMgr_own _ _ _ m _ (h.stays (b1.trans (t10.mono b1.size))) hs) ?_
      rintro e y11 ⟨bs11, Bs11, bt11, Bt11, be11, rfl, hv11, q11⟩
      have m11 := hv11.at hs m.s.length m.x.length m.h.length
      have t11 : Below w1.heap.size w1 y11 := t10.trans (q11.mono t10.size)
      have r11 := r10.of_block (q11.block _ l10)
      have l11 : w1.heap.size < y11.heap.size := Nat.lt_of_lt_of_le l10 q11.size
      refine hK.out _ _ (TA _ t11) (fun hHeld11 => ?_)
      clear hK K hHeld10
      (try simp only [Act.put, List.setIfInBounds_toArray, List.set_cons_zero, List.set_cons_succ])
      refine stepL (i := 4) rfl (by kernel_rfl) (fun K hK => ?_)
      rw [if_pos (by rfl)]
      go_simp
      refine Calls.mono (toKey_any t r _) ?_
      rintro e y12 ⟨rfl, q12⟩
      have m12 := m11.stays q12
      have t12 : Below w1.heap.size w1 y12 := t11.trans (q12.mono t11.size)
      have r12 := r11.of_block (q12.block _ l11)
      have l12 : w1.heap.size < y12.heap.size := Nat.lt_of_lt_of_le l11 q12.size
      refine hK.out _ _ (TA _ t12) (fun hHeld12 => ?_)
      clear hK K hHeld11
      (try simp only [Act.put, List.setIfInBounds_toArray, List.set_cons_zero, List.set_cons_succ])
      refine stepL (i := 6) rfl (by kernel_rfl) (fun K hK => ?_)
      rw [if_pos (by rfl)]
      go_simp
      refine Calls.mono (specTxWrite_any _ _ _ m tx t r val _ m12 hs) ?_
      rintro e y13 ⟨v13, o13, code13, rfl, ⟨sa13, sb13, vs13, vt13, ve13, wv13, rfl, O13⟩, R13, q13⟩
      obtain ⟨⟨aa13, ca13, rfl⟩, ⟨ab13, cb13, rfl⟩, ⟨ac13, cc13, rfl⟩⟩ := O13.slices2
      have bl13 : w1.heap.size ≤ y12.heap.size := t12.size
      have t13 : Below w1.heap.size w1 y13 := t12.trans (q13.mono t12.size)
      have r13 := r12.of_block (q13.block _ l12)
      have l13 : w1.heap.size < y13.heap.size := Nat.lt_of_lt_of_le l12 q13.size
      refine hK.out _ _ (TA _ t13) (fun hHeld13 => ?_)
      clear hK K hHeld12
      (try simp only [Act.put, List.setIfInBounds_toArray, List.set_cons_zero, List.set_cons_succ])
      refine takeL (i := 7) (v := ?_) rfl (by kernel_rfl) (by kernel_rfl) (by kernel_rfl) (fun _ _ _ h => h) rfl (by assumption) ?_ ?_
      rotate_left
      · (intro wS hSw; (try dsimp only at hSw); go_simp; try with_reducible rfl)
      (try simp only [Act.put, List.setIfInBounds_toArray, List.set_cons_zero, List.set_cons_succ])
      refine takeL (i := 8) (v := ?_) rfl (by kernel_rfl) (by kernel_rfl) (by kernel_rfl) (fun _ _ _ h => h) rfl (by assumption) ?_ ?_
      rotate_left
      · (intro wS hSw; (try dsimp only at hSw); go_simp; try with_reducible rfl)
      (try simp only [Act.put, List.setIfInBounds_toArray, List.set_cons_zero, List.set_cons_succ])
      refine takeL (i := 9) (v := ?_) rfl (by kernel_rfl) (by kernel_rfl) (by kernel_rfl) (fun _ _ _ h => h) rfl (by assumption) ?_ ?_
      rotate_left
      · (intro wS hSw; (try dsimp only at hSw); go_simp; try with_reducible rfl)
      (try simp only [Act.put, List.setIfInBounds_toArray, List.set_cons_zero, List.set_cons_succ])
      refine stepL (i := 11) rfl (by kernel_rfl) (fun K hK => ?_)
      rw [if_pos (by rfl)]
      have z0 := r13.cell (show 0 < 5 by omega)
      have z1 := r13.cell (show 1 < 5 by omega)
      have z2 := r13.cell (show 2 < 5 by omega)
      have z3 := r13.cell (show 3 < 5 by omega)
      have z4 := r13.cell (show 4 < 5 by omega)
      have f0 := r13.frozen 0
      have f1 := r13.frozen 1
      have f2 := r13.frozen 2
      have f3 := r13.frozen 3
      have f4 := r13.frozen 4
      simp only [bxf] at z0 z1 z2 z3 z4
      have A := boxA_set O13 t13 (by omega) r13 v10
      go_simp
      have TF : Below w1.heap.size w1 _ := A.b
      refine hK.out _ _ (TA _ A.b) (fun hHeldZ => ?_)
      clear hK K hHeld13
      (try simp only [Act.put, List.setIfInBounds_toArray, List.set_cons_zero, List.set_cons_succ])
      refine takeL (i := 12) (v := ?_) rfl (by kernel_rfl) (by kernel_rfl) (by kernel_rfl) (fun _ _ _ h => h) rfl (by assumption) ?_ ?_
      rotate_left
      · (intro wS hSw; (try dsimp only at hSw); go_simp; try with_reducible rfl)
      (try simp only [Act.put, List.setIfInBounds_toArray, List.set_cons_zero, List.set_cons_succ])
      refine wpAnyH_done (by kernel_rfl) ?_ _
      go_wp2
      go_meet
      case rel => exact ⟨_, _, _, _, _, _, _, _, _, _, _, rfl, rfl, R13, A⟩
  case rest =>
    obtain ⟨V1, o, code, vs3, vt3, ve3, lo3, hi3, s3, q3, wv3, rfl, rfl, hR, A3⟩ := hcut
    have HR : Hid (RW m o tx t r val code) := hR
    have hsm := hR.small hs
    obtain ⟨⟨a31, c31, rfl⟩, ⟨a32, c32, rfl⟩, ⟨a33, c33, rfl⟩⟩ := A3.own.slices2
    have b3 := b1.trans (A3.b.mono b1.size)
    have p3 := p1.stays A3.b
    have k3 := k1.stays A3.b
    have hz3 := A3.b.size
    have ow3 := A3.own.mat hsm
    have pw3 := A3.box
    have nV1 := A3.nv
    have lV1 := A3.box.lt'
    generalize hw3 : wc = w3 at *
    clear hw3 hR A3 b1 p1 k1 r0 r1 r2 r3 r4 r5 r6
    obtain ⟨r0, r1, r2, r3, r4⟩ := id p3
    go_wp2_with fail
    refine (toMgr_own _ _ _ m _ (h.stays b3) hs).mono ?_
    rintro e w4 ⟨bs4, Bs4, bt4, Bt4, be4, rfl, hv4, hb4⟩
    have b4 := b3.trans (hb4.mono b3.size)
    have pa4 := p3.stays hb4
    have ka4 := k3.stays hb4
    have pw4 := pw3.stays hb4
    have ow4 := ow3.stays hb4
    have hz4 := hb4.size
    have hm4 := hv4.at hs m.s.length m.x.length m.h.length
    obtain ⟨px, wvx, X4⟩ := WrM.of_copy hv4 (Nat.le_refl _) m.s.length m.x.length m.h.length
    have hbB := below_alM w4 (Obj.cells #[Value.slice (some ⟨bs4, 0, none⟩) m.s.length m.s.length, .int .i64 m.c, .int .i64 m.n, Value.slice (some ⟨bt4, 0, none⟩) m.x.length m.x.length, Value.slice (some ⟨be4, 0, none⟩) m.h.length m.h.length] 36)
    have pxW := MBox.new w4 (Value.slice (some ⟨bs4, 0, none⟩) m.s.length m.s.length) m.c m.n (Value.slice (some ⟨bt4, 0, none⟩) m.x.length m.x.length) (Value.slice (some ⟨be4, 0, none⟩) m.h.length m.h.length) 36
    have hzB : (w4.alloc (Obj.cells #[Value.slice (some ⟨bs4, 0, none⟩) m.s.length m.s.length, .int .i64 m.c, .int .i64 m.n, Value.slice (some ⟨bt4, 0, none⟩) m.x.length m.x.length, Value.slice (some ⟨be4, 0, none⟩) m.h.length m.h.length] 36)).heap.size = w4.heap.size + 1 := by simp
    have paW := pa4.stays hbB
    have kaW := ka4.stays hbB
    have pwW := pw4.stays hbB
    have owW := ow4.stays hbB
    have bW := b4.trans (hbB.mono b4.size)
    have hmW := hm4.stays hbB
    have XW := X4.stays hbB
    clear b3 p3 k3 pw3 ow3 hb4 hv4 r0 r1 r2 r3 r4 pa4 ka4 pw4 ow4 b4 hm4 X4 hbB
    go_upto_region 7 with (fail)
    generalize w4.alloc (Obj.cells #[Value.slice (some ⟨bs4, 0, none⟩) m.s.length m.s.length, .int .i64 m.c, .int .i64 m.n, Value.slice (some ⟨bt4, 0, none⟩) m.x.length m.x.length, Value.slice (some ⟨be4, 0, none⟩) m.h.length m.h.length] 36) = W4 at *
    have hzC : w4.heap.size < W4.heap.size := by omega
    clear hzB
    obtain ⟨r0, r1, r2, r3, r4⟩ := id pxW
    obtain ⟨r5, r6⟩ := id kaW
    go_upto_region 7 with (fail)
    go_cut [13, 14] from 37 to 45 (fun t13 t14 wc => ∃ V o code vs3 vt3 ve3 lo3 hi3 s3 p3 wv3, t13 = .pointer (some ⟨V, 0, none⟩) ∧ t14 = .int .i64 code ∧ RW m o tx t r val code ∧ BoxA W4 wc V vs3 vt3 ve3 o lo3 hi3 s3 p3 wv3)
    case first =>
      have t0 : Below W4.heap.size W4 W4.drew := (Below.refl _ _).drew
      have m0 := hmW.stays t0
      have TA : ∀ x, Below W4.heap.size W4 x → x.cell? ⟨w4.heap.size, 0, none⟩ = some (.slice (some ⟨bs4, 0, none⟩) m.s.length m.s.length) ∧ x.cell? ⟨w4.heap.size, 1, none⟩ = some (.int .i64 m.c) ∧ x.cell? ⟨w4.heap.size, 2, none⟩ = some (.int .i64 m.n) ∧ x.cell? ⟨w4.heap.size, 3, none⟩ = some (.slice (some ⟨bt4, 0, none⟩) m.x.length m.x.length) ∧ x.cell? ⟨w4.heap.size, 4, none⟩ = some (.slice (some ⟨be4, 0, none⟩) m.h.length m.h.length) ∧ x.cell? ⟨w.heap.size + 1, 0, none⟩ = some (.int .i64 t) ∧ x.cell? ⟨w.heap.size + 1, 1, none⟩ = some (.int .i64 r) := fun x hx => ⟨cell_stays hx r0, cell_stays hx r1, cell_stays hx r2, cell_stays hx r3, cell_stays hx r4, cell_stays hx r5, cell_stays hx r6⟩
      refine region_all (fun x => x.cell? ⟨w4.heap.size, 0, none⟩ = some (.slice (some ⟨bs4, 0, none⟩) m.s.length m.s.length) ∧ x.cell? ⟨w4.heap.size, 1, none⟩ = some (.int .i64 m.c) ∧ x.cell? ⟨w4.heap.size, 2, none⟩ = some (.int .i64 m.n) ∧ x.cell? ⟨w4.heap.size, 3, none⟩ = some (.slice (some ⟨bt4, 0, none⟩) m.x.length m.x.length) ∧ x.cell? ⟨w4.heap.size, 4, none⟩ = some (.slice (some ⟨be4, 0, none⟩) m.h.length m.h.length) ∧ x.cell? ⟨w.heap.size + 1, 0, none⟩ = some (.int .i64 t) ∧ x.cell? ⟨w.heap.size + 1, 1, none⟩ = some (.int .i64 r)) (by kernel_rfl) (TA _ (Below.refl _ _).drew) (fun hHeld0 => ?_)
      simp only [List.length_cons, List.length_nil, Nat.reduceAdd]
      refine takeL (i := 0) (v := ?_) rfl (by kernel_rfl) (by kernel_rfl) (by kernel_rfl) (fun _ _ _ h => h) rfl (by assumption) ?_ ?_
      rotate_left
      · (intro wS hSw; (try dsimp only at hSw); go_simp; try with_reducible rfl)
      (try simp only [Act.put, List.setIfInBounds_toArray, List.set_cons_zero, List.set_cons_succ])
      refine takeL (i := 1) (v := ?_) rfl (by kernel_rfl) (by kernel_rfl) (by kernel_rfl) (fun _ _ _ h => h) rfl (by assumption) ?_ ?_
      rotate_left
      · (intro wS hSw; (try dsimp only at hSw); go_simp; try with_reducible rfl)
      (try simp only [Act.put, List.setIfInBounds_toArray, List.set_cons_zero, List.set_cons_succ])
      refine takeL (i := 2) (v := ?_) rfl (by kernel_rfl) (by kernel_rfl) (by kernel_rfl) (fun _ _ _ h => h) rfl (by assumption) ?_ ?_
      rotate_left
      · (intro wS hSw; (try dsimp only at hSw); go_simp; try with_reducible rfl)
      (try simp only [Act.put, List.setIfInBounds_toArray, List.set_cons_zero, List.set_cons_succ])
      refine takeL (i := 4) (v := ?_) rfl (by kernel_rfl) (by kernel_rfl) (by kernel_rfl) (fun _ _ _ h => h) rfl (by assumption) ?_ ?_
      rotate_left
      · (intro wS hSw; (try dsimp only at hSw); go_simp; try with_reducible rfl)
      (try simp only [Act.put, List.setIfInBounds_toArray, List.set_cons_zero, List.set_cons_succ])
      refine step2L (i := 3) (j := 9) rfl rfl (by kernel_rfl) (fun K hK => ?_) (fun K hK => ?_)
      · rw [if_pos (by rfl)]
        go_simp
        refine Calls.mono (toKey_any t r _) ?_
        rintro e y14 ⟨rfl, q14⟩
        have m14 := m0.stays q14
        have t14 : Below W4.heap.size W4 y14 := t0.trans (q14.mono t0.size)
        refine hK.out _ _ (TA _ t14) (fun hHeld14 => ?_)
        clear hK K hHeld0
        (try simp only [Act.put, List.setIfInBounds_toArray, List.set_cons_zero, List.set_cons_succ])
        refine step2L (i := 5) (j := 9) rfl rfl (by kernel_rfl) (fun K hK => ?_) (fun K hK => ?_)
        · rw [if_pos (by rfl)]
          go_simp
          refine Calls.mono (implTxWrite_any _ _ _ m tx t r val _ m14 hs (hL.stays (bW.trans (t14.mono bW.size)))) ?_
          rintro e y15 ⟨v15, o15, code15, rfl, ⟨sa15, sb15, vs15, vt15, ve15, wv15, rfl, O15⟩, R15, q15⟩
          obtain ⟨⟨aa15, ca15, rfl⟩, ⟨ab15, cb15, rfl⟩, ⟨ac15, cc15, rfl⟩⟩ := O15.slices2
          have bl15 : W4.heap.size ≤ y14.heap.size := t14.size
          have t15 : Below W4.heap.size W4 y15 := t14.trans (q15.mono t14.size)
          refine hK.out _ _ (TA _ t15) (fun hHeld15 => ?_)
          clear hK K hHeld14
          (try simp only [Act.put, List.setIfInBounds_toArray, List.set_cons_zero, List.set_cons_succ])
          refine takeL (i := 6) (v := ?_) rfl (by kernel_rfl) (by kernel_rfl) (by kernel_rfl) (fun _ _ _ h => h) rfl (by assumption) ?_ ?_
          rotate_left
          · (intro wS hSw; (try dsimp only at hSw); go_simp; try with_reducible rfl)
          (try simp only [Act.put, List.setIfInBounds_toArray, List.set_cons_zero, List.set_cons_succ])
          refine takeL (i := 7) (v := ?_) rfl (by kernel_rfl) (by kernel_rfl) (by kernel_rfl) (fun _ _ _ h => h) rfl (by assumption) ?_ ?_
          rotate_left
          · (intro wS hSw; (try dsimp only at hSw); go_simp; try with_reducible rfl)
          (try simp only [Act.put, List.setIfInBounds_toArray, List.set_cons_zero, List.set_cons_succ])
          refine takeL (i := 8) (v := ?_) rfl (by kernel_rfl) (by kernel_rfl) (by kernel_rfl) (fun _ _ _ h => h) rfl (by assumption) ?_ ?_
          rotate_left
          · (intro wS hSw; (try dsimp only at hSw); go_simp; try with_reducible rfl)
          (try simp only [Act.put, List.setIfInBounds_toArray, List.set_cons_zero, List.set_cons_succ])
          refine stepL (i := 9) rfl (by kernel_rfl) (fun K hK => ?_)
          rw [if_pos (by rfl)]
          go_simp
          have q16 := below_alM (y15) (Obj.cells #[Value.slice none 0 0, .int .i64 0, .int .i64 0, Value.slice none 0 0, Value.slice none 0 0] 36)
          have t16 : Below W4.heap.size W4 ((y15).alloc (Obj.cells #[Value.slice none 0 0, .int .i64 0, .int .i64 0, Value.slice none 0 0, Value.slice none 0 0] 36)) := t15.trans (q16.mono t15.size)
          have r16 : RowOf ((y15).alloc (Obj.cells #[Value.slice none 0 0, .int .i64 0, .int .i64 0, Value.slice none 0 0, Value.slice none 0 0] 36)) y15.heap.size 36 5 (bxf nilV 0 0 nilV nilV) := ⟨_, Deep.blk_alloc_new _ _, by simp, fun j hj => by
          match j, hj with
          | 0, _ => rfl
          | 1, _ => rfl
          | 2, _ => rfl
          | 3, _ => rfl
          | 4, _ => rfl⟩
          have v16 : W4.heap.size ≤ y15.heap.size := t15.size
          have l16 : y15.heap.size < ((y15).alloc (Obj.cells #[Value.slice none 0 0, .int .i64 0, .int .i64 0, Value.slice none 0 0, Value.slice none 0 0] 36)).heap.size := by simp
          refine hK.out _ _ (TA _ t16) (fun hHeld16 => ?_)
          clear hK K hHeld15
          (try simp only [Act.put, List.setIfInBounds_toArray, List.set_cons_zero, List.set_cons_succ])
          refine stepL (i := 10) rfl (by kernel_rfl) (fun K hK => ?_)
          rw [if_pos (by rfl)]
          have A := boxA_new O15 t15 bl15
          go_simp
          have TF : Below W4.heap.size W4 _ := A.b
          refine hK.out _ _ (TA _ A.b) (fun hHeldZ => ?_)
          clear hK K hHeld16
          (try simp only [Act.put, List.setIfInBounds_toArray, List.set_cons_zero, List.set_cons_succ])
          refine takeL (i := 11) (v := ?_) rfl (by kernel_rfl) (by kernel_rfl) (by kernel_rfl) (fun _ _ _ h => h) rfl (by assumption) ?_ ?_
          rotate_left
          · (intro wS hSw; (try dsimp only at hSw); go_simp; try with_reducible rfl)
          (try simp only [Act.put, List.setIfInBounds_toArray, List.set_cons_zero, List.set_cons_succ])
          refine wpAnyH_done (by kernel_rfl) ?_ _
          go_wp2
          go_meet
          case rel => exact ⟨_, _, _, _, _, _, _, _, _, _, _, rfl, rfl, R15, A⟩
        · rw [if_pos (by rfl)]
          go_simp
          have q17 := below_alM (y14) (Obj.cells #[Value.slice none 0 0, .int .i64 0, .int .i64 0, Value.slice none 0 0, Value.slice none 0 0] 36)
          have t17 : Below W4.heap.size W4 ((y14).alloc (Obj.cells #[Value.slice none 0 0, .int .i64 0, .int .i64 0, Value.slice none 0 0, Value.slice none 0 0] 36)) := t14.trans (q17.mono t14.size)
          have r17 : RowOf ((y14).alloc (Obj.cells #[Value.slice none 0 0, .int .i64 0, .int .i64 0, Value.slice none 0 0, Value.slice none 0 0] 36)) y14.heap.size 36 5 (bxf nilV 0 0 nilV nilV) := ⟨_, Deep.blk_alloc_new _ _, by simp, fun j hj => by
          match j, hj with
          | 0, _ => rfl
          | 1, _ => rfl
          | 2, _ => rfl
          | 3, _ => rfl
          | 4, _ => rfl⟩
          have v17 : W4.heap.size ≤ y14.heap.size := t14.size
          have l17 : y14.heap.size < ((y14).alloc (Obj.cells #[Value.slice none 0 0, .int .i64 0, .int .i64 0, Value.slice none 0 0, Value.slice none 0 0] 36)).heap.size := by simp
          have m17 := m14.stays q17
          refine hK.out _ _ (TA _ t17) (fun hHeld17 => ?_)
          clear hK K hHeld14
          (try simp only [Act.put, List.setIfInBounds_toArray, List.set_cons_zero, List.set_cons_succ])
          refine stepL (i := 5) rfl (by kernel_rfl) (fun K hK => ?_)
          rw [if_pos (by rfl)]
          go_simp
          refine Calls.mono (implTxWrite_any _ _ _ m tx t r val _ m17 hs (hL.stays (bW.trans (t17.mono bW.size)))) ?_
          rintro e y18 ⟨v18, o18, code18, rfl, ⟨sa18, sb18, vs18, vt18, ve18, wv18, rfl, O18⟩, R18, q18⟩
          obtain ⟨⟨aa18, ca18, rfl⟩, ⟨ab18, cb18, rfl⟩, ⟨ac18, cc18, rfl⟩⟩ := O18.slices2
          have bl18 : W4.heap.size ≤ ((y14).alloc (Obj.cells #[Value.slice none 0 0, .int .i64 0, .int .i64 0, Value.slice none 0 0, Value.slice none 0 0] 36)).heap.size := t17.size
          have t18 : Below W4.heap.size W4 y18 := t17.trans (q18.mono t17.size)
          have r18 := r17.of_block (q18.block _ l17)
          have l18 : y14.heap.size < y18.heap.size := Nat.lt_of_lt_of_le l17 q18.size
          refine hK.out _ _ (TA _ t18) (fun hHeld18 => ?_)
          clear hK K hHeld17
          (try simp only [Act.put, List.setIfInBounds_toArray, List.set_cons_zero, List.set_cons_succ])
          refine takeL (i := 6) (v := ?_) rfl (by kernel_rfl) (by kernel_rfl) (by kernel_rfl) (fun _ _ _ h => h) rfl (by assumption) ?_ ?_
          rotate_left
          · (intro wS hSw; (try dsimp only at hSw); go_simp; try with_reducible rfl)
          (try simp only [Act.put, List.setIfInBounds_toArray, List.set_cons_zero, List.set_cons_succ])
          refine takeL (i := 7) (v := ?_) rfl (by kernel_rfl) (by kernel_rfl) (by kernel_rfl) (fun _ _ _ h => h) rfl (by assumption) ?_ ?_
          rotate_left
          · (intro wS hSw; (try dsimp only at hSw); go_simp; try with_reducible rfl)
          (try simp only [Act.put, List.setIfInBounds_toArray, List.set_cons_zero, List.set_cons_succ])
          refine takeL (i := 8) (v := ?_) rfl (by kernel_rfl) (by kernel_rfl) (by kernel_rfl) (fun _ _ _ h => h) rfl (by assumption) ?_ ?_
          rotate_left
          · (intro wS hSw; (try dsimp only at hSw); go_simp; try with_reducible rfl)
          (try simp only [Act.put, List.setIfInBounds_toArray, List.set_cons_zero, List.set_cons_succ])
          refine stepL (i := 10) rfl (by kernel_rfl) (fun K hK => ?_)
          rw [if_pos (by rfl)]
          have z0 := r18.cell (show 0 < 5 by omega)
          have z1 := r18.cell (show 1 < 5 by omega)
          have z2 := r18.cell (show 2 < 5 by omega)
          have z3 := r18.cell (show 3 < 5 by omega)
          have z4 := r18.cell (show 4 < 5 by omega)
          have f0 := r18.frozen 0
          have f1 := r18.frozen 1
          have f2 := r18.frozen 2
          have f3 := r18.frozen 3
          have f4 := r18.frozen 4
          simp only [bxf] at z0 z1 z2 z3 z4
          have A := boxA_set O18 t18 (by omega) r18 v17
          go_simp
          have TF : Below W4.heap.size W4 _ := A.b
          refine hK.out _ _ (TA _ A.b) (fun hHeldZ => ?_)
          clear hK K hHeld18
          (try simp only [Act.put, List.setIfInBounds_toArray, List.set_cons_zero, List.set_cons_succ])
          refine takeL (i := 11) (v := ?_) rfl (by kernel_rfl) (by kernel_rfl) (by kernel_rfl) (fun _ _ _ h => h) rfl (by assumption) ?_ ?_
          rotate_left
          · (intro wS hSw; (try dsimp only at hSw); go_simp; try with_reducible rfl)
          (try simp only [Act.put, List.setIfInBounds_toArray, List.set_cons_zero, List.set_cons_succ])
          refine wpAnyH_done (by kernel_rfl) ?_ _
          go_wp2
          go_meet
          case rel => exact ⟨_, _, _, _, _, _, _, _, _, _, _, rfl, rfl, R18, A⟩
      · rw [if_pos (by rfl)]
        go_simp
        have q19 := below_alM (W4.drew) (Obj.cells #[Value.slice none 0 0, .int .i64 0, .int .i64 0, Value.slice none 0 0, Value.slice none 0 0] 36)
        have t19 : Below W4.heap.size W4 ((W4.drew).alloc (Obj.cells #[Value.slice none 0 0, .int .i64 0, .int .i64 0, Value.slice none 0 0, Value.slice none 0 0] 36)) := t0.trans (q19.mono t0.size)
        have r19 : RowOf ((W4.drew).alloc (Obj.cells #[Value.slice none 0 0, .int .i64 0, .int .i64 0, Value.slice none 0 0, Value.slice none 0 0] 36)) W4.heap.size 36 5 (bxf nilV 0 0 nilV nilV) := ⟨_, Deep.blk_alloc_new _ _, by simp, fun j hj => by
          match j, hj with
          | 0, _ => rfl
          | 1, _ => rfl
          | 2, _ => rfl
          | 3, _ => rfl
          | 4, _ => rfl⟩
        have v19 : W4.heap.size ≤ W4.heap.size := t0.size
        have l19 : W4.heap.size < ((W4.drew).alloc (Obj.cells #[Value.slice none 0 0, .int .i64 0, .int .i64 0, Value.slice none 0 0, Value.slice none 0 0] 36)).heap.size := by simp
        have m19 := m0.stays q19
        refine hK.out _ _ (TA _ t19) (fun hHeld19 => ?_)
        clear hK K hHeld0
        (try simp only [Act.put, List.setIfInBounds_toArray, List.set_cons_zero, List.set_cons_succ])
        refine stepL (i := 3) rfl (by kernel_rfl) (fun K hK => ?_)
        rw [if_pos (by rfl)]
        go_simp
        refine Calls.mono (toKey_any t r _) ?_
        rintro e y20 ⟨rfl, q20⟩
        have m20 := m19.stays q20
        have t20 : Below W4.heap.size W4 y20 := t19.trans (q20.mono t19.size)
        have r20 := r19.of_block (q20.block _ l19)
        have l20 : W4.heap.size < y20.heap.size := Nat.lt_of_lt_of_le l19 q20.size
        refine hK.out _ _ (TA _ t20) (fun hHeld20 => ?_)
        clear hK K hHeld19
        (try simp only [Act.put, List.setIfInBounds_toArray, List.set_cons_zero, List.set_cons_succ])
        refine stepL (i := 5) rfl (by kernel_rfl) (fun K hK => ?_)
        rw [if_pos (by rfl)]
        go_simp
        refine Calls.mono (implTxWrite_any _ _ _ m tx t r val _ m20 hs (hL.stays (bW.trans (t20.mono bW.size)))) ?_
        rintro e y21 ⟨v21, o21, code21, rfl, ⟨sa21, sb21, vs21, vt21, ve21, wv21, rfl, O21⟩, R21, q21⟩
        obtain ⟨⟨aa21, ca21, rfl⟩, ⟨ab21, cb21, rfl⟩, ⟨ac21, cc21, rfl⟩⟩ := O21.slices2
        have bl21 : W4.heap.size ≤ y20.heap.size := t20.size
        have t21 : Below W4.heap.size W4 y21 := t20.trans (q21.mono t20.size)
        have r21 := r20.of_block (q21.block _ l20)
        have l21 : W4.heap.size < y21.heap.size := Nat.lt_of_lt_of_le l20 q21.size
        refine hK.out _ _ (TA _ t21) (fun hHeld21 => ?_)
        clear hK K hHeld20
        (try simp only [Act.put, List.setIfInBounds_toArray, List.set_cons_zero, List.set_cons_succ])
        refine takeL (i := 6) (v := ?_) rfl (by kernel_rfl) (by kernel_rfl) (by kernel_rfl) (fun _ _ _ h => h) rfl (by assumption) ?_ ?_
        rotate_left
        · (intro wS hSw; (try dsimp only at hSw); go_simp; try with_reducible rfl)
        (try simp only [Act.put, List.setIfInBounds_toArray, List.set_cons_zero, List.set_cons_succ])
        refine takeL (i := 7) (v := ?_) rfl (by kernel_rfl) (by kernel_rfl) (by kernel_rfl) (fun _ _ _ h => h) rfl (by assumption) ?_ ?_
        rotate_left
        · (intro wS hSw; (try dsimp only at hSw); go_simp; try with_reducible rfl)
        (try simp only [Act.put, List.setIfInBounds_toArray, List.set_cons_zero, List.set_cons_succ])
        refine takeL (i := 8) (v := ?_) rfl (by kernel_rfl) (by kernel_rfl) (by kernel_rfl) (fun _ _ _ h => h) rfl (by assumption) ?_ ?_
        rotate_left
        · (intro wS hSw; (try dsimp only at hSw); go_simp; try with_reducible rfl)
        (try simp only [Act.put, List.setIfInBounds_toArray, List.set_cons_zero, List.set_cons_succ])
        refine stepL (i := 10) rfl (by kernel_rfl) (fun K hK => ?_)
        rw [if_pos (by rfl)]
        have z0 := r21.cell (show 0 < 5 by omega)
        have z1 := r21.cell (show 1 < 5 by omega)
        have z2 := r21.cell (show 2 < 5 by omega)
        have z3 := r21.cell (show 3 < 5 by omega)
        have z4 := r21.cell (show 4 < 5 by omega)
        have f0 := r21.frozen 0
        have f1 := r21.frozen 1
        have f2 := r21.frozen 2
        have f3 := r21.frozen 3
        have f4 := r21.frozen 4
        simp only [bxf] at z0 z1 z2 z3 z4
        have A := boxA_set O21 t21 (by omega) r21 v19
        go_simp
        have TF : Below W4.heap.size W4 _ := A.b
        refine hK.out _ _ (TA _ A.b) (fun hHeldZ => ?_)
        clear hK K hHeld21
        (try simp only [Act.put, List.setIfInBounds_toArray, List.set_cons_zero, List.set_cons_succ])
        refine takeL (i := 11) (v := ?_) rfl (by kernel_rfl) (by kernel_rfl) (by kernel_rfl) (fun _ _ _ h => h) rfl (by assumption) ?_ ?_
        rotate_left
        · (intro wS hSw; (try dsimp only at hSw); go_simp; try with_reducible rfl)
        (try simp only [Act.put, List.setIfInBounds_toArray, List.set_cons_zero, List.set_cons_succ])
        refine wpAnyH_done (by kernel_rfl) ?_ _
        go_wp2
        go_meet
        case rel => exact ⟨_, _, _, _, _, _, _, _, _, _, _, rfl, rfl, R21, A⟩
    case rest =>
      obtain ⟨V2, o6, code6, vs6, vt6, ve6, lo6, hi6, s60, s61, wv6, rfl, rfl, hR6, A6⟩ := hcut
      obtain ⟨e0, e1⟩ := HR.out.one hR6
      subst e0 e1
      obtain ⟨⟨a61, c61, rfl⟩, ⟨a62, c62, rfl⟩, ⟨a63, c63, rfl⟩⟩ := A6.own.slices2
      have S6 : SR w (.slice a1 m.s.length cap1) (.slice a2 m.x.length cap2) (.slice a3 m.h.length cap3) m t r V1 (.slice a31 o.s.length c31) (.slice a32 o.x.length c32) (.slice a33 o.h.length c33) o w4.heap.size (.slice (some ⟨bs4, 0, none⟩) m.s.length m.s.length) (.slice (some ⟨bt4, 0, none⟩) m.x.length m.x.length) (.slice (some ⟨be4, 0, none⟩) m.h.length m.h.length) V2 (.slice a61 o.s.length c61) (.slice a62 o.x.length c62) (.slice a63 o.h.length c63) lo3 w3.heap.size wc :=
        ⟨bW.trans (A6.b.mono bW.size), paW.stays A6.b, kaW.stays A6.b, pwW.stays A6.b, pxW.stays A6.b, A6.box, owW.stays A6.b⟩
      have X6 := XW.stays A6.b
      have hMx6 := hmW.stays A6.b
      have G6 := A6.own
      have Y6 := A6.wr
      have hz6 := A6.b.size
      have nV2 := A6.nv
      have nl6 := A6.nl
      have ou6 := A6.out
      have hto := Y6.top
      generalize hw6 : wc = W6 at *
      clear hw6 A6 hR6 bW paW kaW pwW pxW owW XW hmW r0 r1 r2 r3 r4 r5 r6
      obtain ⟨_, pa, ka, pw, px', pg, _⟩ := id S6
      obtain ⟨f0, f1, f2, f3, f4⟩ := pw
      obtain ⟨g0, g1, g2, g3, g4⟩ := pg
      clear pa px' ka
      go_wp2_with fail
      refine (eqMgr_same _ _ _ _ _ _ o _ (G6.mat hsm) S6.ow).mono ?_
      rintro e w7 ⟨rfl, hb7⟩
      have S7 := S6.stays hb7
      have X7 := X6.stays hb7
      have hMx7 := hMx6.stays hb7
      have G7 := G6.stays hb7
      have Y7 := Y6.stays hb7
      have hz7 := hb7.size
      clear S6 X6 G6 Y6 hMx6 hb7 f0 f1 f2 f3 f4 g0 g1 g2 g3 g4
      have TA : ∀ x, Below w7.heap.size w7 x → Below w.heap.size w x ∧ x.cell? ⟨w.heap.size, 0, none⟩ = some (.slice a1 m.s.length cap1) ∧ x.cell? ⟨w.heap.size, 1, none⟩ = some (.int .i64 m.c) ∧ x.cell? ⟨w.heap.size, 2, none⟩ = some (.int .i64 m.n) ∧ x.cell? ⟨w.heap.size, 3, none⟩ = some (.slice a2 m.x.length cap2) ∧ x.cell? ⟨w.heap.size, 4, none⟩ = some (.slice a3 m.h.length cap3) ∧ x.cell? ⟨w4.heap.size, 0, none⟩ = some (.slice (some ⟨bs4, 0, none⟩) m.s.length m.s.length) ∧ x.cell? ⟨w4.heap.size, 1, none⟩ = some (.int .i64 m.c) ∧ x.cell? ⟨w4.heap.size, 2, none⟩ = some (.int .i64 m.n) ∧ x.cell? ⟨w4.heap.size, 3, none⟩ = some (.slice (some ⟨bt4, 0, none⟩) m.x.length m.x.length) ∧ x.cell? ⟨w4.heap.size, 4, none⟩ = some (.slice (some ⟨be4, 0, none⟩) m.h.length m.h.length) := fun x hx => by
        obtain ⟨t0, ⟨t1, t2, t3, t4, t5⟩, _, _, ⟨t6, t7, t8, t9, ta⟩, _, _⟩ := S7.stays hx
        exact ⟨t0, t1, t2, t3, t4, t5, t6, t7, t8, t9, ta⟩
      go_wp2_with fail
      refine region_last (fun x => Below w.heap.size w x ∧ x.cell? ⟨w.heap.size, 0, none⟩ = some (.slice a1 m.s.length cap1) ∧ x.cell? ⟨w.heap.size, 1, none⟩ = some (.int .i64 m.c) ∧ x.cell? ⟨w.heap.size, 2, none⟩ = some (.int .i64 m.n) ∧ x.cell? ⟨w.heap.size, 3, none⟩ = some (.slice a2 m.x.length cap2) ∧ x.cell? ⟨w.heap.size, 4, none⟩ = some (.slice a3 m.h.length cap3) ∧ x.cell? ⟨w4.heap.size, 0, none⟩ = some (.slice (some ⟨bs4, 0, none⟩) m.s.length m.s.length) ∧ x.cell? ⟨w4.heap.size, 1, none⟩ = some (.int .i64 m.c) ∧ x.cell? ⟨w4.heap.size, 2, none⟩ = some (.int .i64 m.n) ∧ x.cell? ⟨w4.heap.size, 3, none⟩ = some (.slice (some ⟨bt4, 0, none⟩) m.x.length m.x.length) ∧ x.cell? ⟨w4.heap.size, 4, none⟩ = some (.slice (some ⟨be4, 0, none⟩) m.h.length m.h.length)) (by kernel_rfl) (by kernel_rfl) (by kernel_rfl) (TA _ (Below.refl _ _).drew) (fun hHeld => ?_)
      simp only [List.dropLast, List.length_cons, List.length_nil, Nat.reduceAdd]
      refine takeL (i := 0) (v := ?_) rfl (by kernel_rfl) (by kernel_rfl) (by kernel_rfl) (fun _ _ _ h => h) rfl (by assumption) ?_ ?_
      rotate_left
      · (intro wS hSw; (try dsimp only at hSw); go_simp; try with_reducible rfl)
      (try simp only [Act.put, List.setIfInBounds_toArray, List.set_cons_zero, List.set_cons_succ])
      refine takeL (i := 1) (v := ?_) rfl (by kernel_rfl) (by kernel_rfl) (by kernel_rfl) (fun _ _ _ h => h) rfl (by assumption) ?_ ?_
      rotate_left
      · (intro wS hSw; (try dsimp only at hSw); go_simp; try with_reducible rfl)
      (try simp only [Act.put, List.setIfInBounds_toArray, List.set_cons_zero, List.set_cons_succ])
      refine stepL (i := 2) rfl (by kernel_rfl) (fun K hK => ?_)
      rw [if_pos (by rfl)]
      go_simp
      refine (toMgr_own _ _ _ m _ (h.stays (TA _ (Below.refl _ _).drew).1) hs).mono ?_
      rintro e w8 ⟨bs8, Bs8, bt8, Bt8, be8, rfl, hv8, hb8⟩
      have hm8 := hv8.at hs m.s.length m.x.length m.h.length
      have t78 : Below w7.heap.size w7 w8 := (Below.refl _ _).drew.trans hb8
      refine hK.out _ _ (TA _ t78) (fun hHeld2 => ?_)
      clear hK K hHeld
      (try simp only [Act.put, List.setIfInBounds_toArray, List.set_cons_zero, List.set_cons_succ])
      refine stepL (i := 3) rfl (by kernel_rfl) (fun K hK => ?_)
      rw [if_pos (by rfl)]
      go_simp
      have hX8 := X7.stays t78
      refine (eqMgr_same _ _ _ _ _ _ m _ ((hMx7.stays t78)) hm8).mono ?_
      rintro e w9 ⟨rfl, hb9⟩
      have t79 := t78.trans (hb9.mono t78.size)
      refine hK.out _ _ (TA _ t79) (fun hHeld3 => ?_)
      clear hK K hHeld2
      (try simp only [Act.put, List.setIfInBounds_toArray, List.set_cons_zero, List.set_cons_succ])
      refine wpAnyH_done (by kernel_rfl) ?_ _
      refine lastL (n := 4) rfl rfl ?_
      go_simp
      have S9 := S7.stays t79
      have X9 := X7.stays t79
      have G9 := G7.stays t79
      have Y9 := Y7.stays t79
      have hz9 := t79.size
      clear hHeld3 TA S7 X7 G7 Y7 t78 t79 hv8 hb8 hb9 hm8 hX8 hMx7
      obtain ⟨_, pa, ka, pw, px', pg, _⟩ := id S9
      obtain ⟨f0, f1, f2, f3, f4⟩ := px'
      clear pa pw pg
      go_wp2_with fail
      refine (markMgr_any _ w3.heap.size w4.heap.size w3.heap.size px _ _ _ m wvx X9 hs.room).mono ?_
      rintro e w10 ⟨rfl, k10, o10, t10, u10, z10, _⟩
      have S10 := S9.mark k10 o10 t10 u10 z10 (by omega) (by omega) (by omega) (by omega) (by omega)
      have G10 := G9.keep (fun k h1 h2 => k10 k (by omega) h2) z10
      have Y10 := Y9.keep (fun k h1 h2 h3 => k10 k (by omega) h3) z10
      have hnm : ¬ ((mK m : Nat) : Int) < 0 := by omega
      generalize ((mK m : Nat) : Int) = KM1 at hnm ⊢
      clear S9 X9 G9 Y9 k10 o10 t10 u10 f0 f1 f2 f3 f4
      obtain ⟨_, pa, ka, pw, px', pg, _⟩ := id S10
      obtain ⟨f0, f1, f2, f3, f4⟩ := pw
      obtain ⟨g0, g1, g2, g3, g4⟩ := pg
      clear pa px'
      go_wp2_with fail
      refine (eqMgr_same _ _ _ _ _ _ o _ (G10.mat hsm) S10.ow).mono ?_
      rintro e w11 ⟨rfl, hb11⟩
      have S11 := S10.stays hb11
      have Y11 := Y10.stays hb11
      have hz11 := hb11.size
      clear S10 G10 Y10 hb11 f0 f1 f2 f3 f4 g0 g1 g2 g3 g4
      obtain ⟨_, pa, ka, pw, px', pg, _⟩ := id S11
      obtain ⟨g0, g1, g2, g3, g4⟩ := pg
      clear pa px' pw
      go_wp2_with fail
      refine (markMgr_any _ _ _ _ _ _ _ _ o wv6 Y11 hsm).mono ?_
      rintro e w12 ⟨rfl, k12, o12, t12, u12, z12, K12⟩
      have S12 := S11.mark k12 o12 t12 u12 z12 (by omega) (by omega) (by omega) (by omega) (by omega)
      clear S11 Y11 k12 o12 t12 u12 g0 g1 g2 g3 g4
      obtain ⟨_, pa, ka, pw, px', pg, _⟩ := id S12
      obtain ⟨g0, g1, g2, g3, g4⟩ := pg
      clear pa px' pw
      go_wp2_with fail
      refine (heldMgr_any _ _ _ _ _ _ _ _ o wv6 K12 hsm ⟨_, _, rfl⟩ ⟨_, _, rfl⟩ ⟨_, _, rfl⟩).mono ?_
      rintro e w13 ⟨rfl, hb13⟩
      have S13 := S12.stays hb13
      have K13 := K12.stays hb13
      have hz13 := hb13.size
      clear S12 K12 hb13 g0 g1 g2 g3 g4
      have hno : ¬ ((mK o : Nat) : Int) < 0 := by omega
      have b13 := S13.b
      obtain ⟨_, pa, ka, pw, px', pg, _⟩ := id S13
      obtain ⟨r0, r1, r2, r3, r4⟩ := pa
      obtain ⟨r5, r6⟩ := ka
      clear pg px' pw
      go_upto_region 24 with (fail)
      go_cut [18, 19] from 87 to 96 (fun t18 t19 wc => ∃ V o code vs3 vt3 ve3 lo3 hi3 s3 p3 wv3, t18 = .pointer (some ⟨V, 0, none⟩) ∧ t19 = .int .i64 code ∧ RW m o tx t r val code ∧ BoxA w13 wc V vs3 vt3 ve3 o lo3 hi3 s3 p3 wv3)
      case first =>
        have t0 : Below w13.heap.size w13 w13.drew := (Below.refl _ _).drew
        have TA : ∀ x, Below w13.heap.size w13 x → x.cell? ⟨w.heap.size, 0, none⟩ = some (.slice a1 m.s.length cap1) ∧ x.cell? ⟨w.heap.size, 1, none⟩ = some (.int .i64 m.c) ∧ x.cell? ⟨w.heap.size, 2, none⟩ = some (.int .i64 m.n) ∧ x.cell? ⟨w.heap.size, 3, none⟩ = some (.slice a2 m.x.length cap2) ∧ x.cell? ⟨w.heap.size, 4, none⟩ = some (.slice a3 m.h.length cap3) ∧ x.cell? ⟨w.heap.size + 1, 0, none⟩ = some (.int .i64 t) ∧ x.cell? ⟨w.heap.size + 1, 1, none⟩ = some (.int .i64 r) := fun x hx => ⟨cell_stays hx r0, cell_stays hx r1, cell_stays hx r2, cell_stays hx r3, cell_stays hx r4, cell_stays hx r5, cell_stays hx r6⟩
        refine region_all (fun x => x.cell? ⟨w.heap.size, 0, none⟩ = some (.slice a1 m.s.length cap1) ∧ x.cell? ⟨w.heap.size, 1, none⟩ = some (.int .i64 m.c) ∧ x.cell? ⟨w.heap.size, 2, none⟩ = some (.int .i64 m.n) ∧ x.cell? ⟨w.heap.size, 3, none⟩ = some (.slice a2 m.x.length cap2) ∧ x.cell? ⟨w.heap.size, 4, none⟩ = some (.slice a3 m.h.length cap3) ∧ x.cell? ⟨w.heap.size + 1, 0, none⟩ = some (.int .i64 t) ∧ x.cell? ⟨w.heap.size + 1, 1, none⟩ = some (.int .i64 r)) (by kernel_rfl) (TA _ (Below.refl _ _).drew) (fun hHeld0 => ?_)
        simp only [List.length_cons, List.length_nil, Nat.reduceAdd]
        refine takeL (i := 0) (v := ?_) rfl (by kernel_rfl) (by kernel_rfl) (by kernel_rfl) (fun _ _ _ h => h) rfl (by assumption) ?_ ?_
        rotate_left
        · (intro wS hSw; (try dsimp only at hSw); go_simp; try with_reducible rfl)
        (try simp only [Act.put, List.setIfInBounds_toArray, List.set_cons_zero, List.set_cons_succ])
        refine takeL (i := 2) (v := ?_) rfl (by kernel_rfl) (by kernel_rfl) (by kernel_rfl) (fun _ _ _ h => h) rfl (by assumption) ?_ ?_
        rotate_left
        · (intro wS hSw; (try dsimp only at hSw); go_simp; try with_reducible rfl)
        (try simp only [Act.put, List.setIfInBounds_toArray, List.set_cons_zero, List.set_cons_succ])
        refine takeL (i := 3) (v := ?_) rfl (by kernel_rfl) (by kernel_rfl) (by kernel_rfl) (fun _ _ _ h => h) rfl (by assumption) ?_ ?_
        rotate_left
        · (intro wS hSw; (try dsimp only at hSw); go_simp; try with_reducible rfl)
        (try simp only [Act.put, List.setIfInBounds_toArray, List.set_cons_zero, List.set_cons_succ])
        refine takeL (i := 5) (v := ?_) rfl (by kernel_rfl) (by kernel_rfl) (by kernel_rfl) (fun _ _ _ h => h) rfl (by assumption) ?_ ?_
        rotate_left
        · (intro wS hSw; (try dsimp only at hSw); go_simp; try with_reducible rfl)
        (try simp only [Act.put, List.setIfInBounds_toArray, List.set_cons_zero, List.set_cons_succ])
        refine step2L (i := 1) (j := 10) rfl rfl (by kernel_rfl) (fun K hK => ?_) (fun K hK => ?_)
        · rw [if_pos (by rfl)]
          go_simp
          refine Calls.mono (toMgr_own _ _ _ m _ (h.stays (b13.trans (t0.mono b13.size))) hs) ?_
          rintro e y22 ⟨bs22, Bs22, bt22, Bt22, be22, rfl, hv22, q22⟩
          have m22 := hv22.at hs m.s.length m.x.length m.h.length
          have t22 : Below w13.heap.size w13 y22 := t0.trans (q22.mono t0.size)
          refine hK.out _ _ (TA _ t22) (fun hHeld22 => ?_)
          clear hK K hHeld0
          (try simp only [Act.put, List.setIfInBounds_toArray, List.set_cons_zero, List.set_cons_succ])
          refine step2L (i := 4) (j := 10) rfl rfl (by kernel_rfl) (fun K hK => ?_) (fun K hK => ?_)
          · rw [if_pos (by rfl)]
            go_simp
            refine Calls.mono (toKey_any t r _) ?_
            rintro e y23 ⟨rfl, q23⟩
            have m23 := m22.stays q23
            have t23 : Below w13.heap.size w13 y23 := t22.trans (q23.mono t22.size)
            refine hK.out _ _ (TA _ t23) (fun hHeld23 => ?_)
            clear hK K hHeld22
            (try simp only [Act.put, List.setIfInBounds_toArray, List.set_cons_zero, List.set_cons_succ])
            refine step2L (i := 6) (j := 10) rfl rfl (by kernel_rfl) (fun K hK => ?_) (fun K hK => ?_)
            · rw [if_pos (by rfl)]
              go_simp
              refine Calls.mono (implTxWrite_any _ _ _ m tx t r val _ m23 hs (hL.stays (b13.trans (t23.mono b13.size)))) ?_
              rintro e y24 ⟨v24, o24, code24, rfl, ⟨sa24, sb24, vs24, vt24, ve24, wv24, rfl, O24⟩, R24, q24⟩
              obtain ⟨⟨aa24, ca24, rfl⟩, ⟨ab24, cb24, rfl⟩, ⟨ac24, cc24, rfl⟩⟩ := O24.slices2
              have bl24 : w13.heap.size ≤ y23.heap.size := t23.size
              have t24 : Below w13.heap.size w13 y24 := t23.trans (q24.mono t23.size)
              refine hK.out _ _ (TA _ t24) (fun hHeld24 => ?_)
              clear hK K hHeld23
              (try simp only [Act.put, List.setIfInBounds_toArray, List.set_cons_zero, List.set_cons_succ])
              refine takeL (i := 7) (v := ?_) rfl (by kernel_rfl) (by kernel_rfl) (by kernel_rfl) (fun _ _ _ h => h) rfl (by assumption) ?_ ?_
              rotate_left
              · (intro wS hSw; (try dsimp only at hSw); go_simp; try with_reducible rfl)
              (try simp only [Act.put, List.setIfInBounds_toArray, List.set_cons_zero, List.set_cons_succ])
              refine takeL (i := 8) (v := ?_) rfl (by kernel_rfl) (by kernel_rfl) (by kernel_rfl) (fun _ _ _ h => h) rfl (by assumption) ?_ ?_
              rotate_left
              · (intro wS hSw; (try dsimp only at hSw); go_simp; try with_reducible rfl)
              (try simp only [Act.put, List.setIfInBounds_toArray, List.set_cons_zero, List.set_cons_succ])
              refine takeL (i := 9) (v := ?_) rfl (by kernel_rfl) (by kernel_rfl) (by kernel_rfl) (fun _ _ _ h => h) rfl (by assumption) ?_ ?_
              rotate_left
              · (intro wS hSw; (try dsimp only at hSw); go_simp; try with_reducible rfl)
              (try simp only [Act.put, List.setIfInBounds_toArray, List.set_cons_zero, List.set_cons_succ])
              refine stepL (i := 10) rfl (by kernel_rfl) (fun K hK => ?_)
              rw [if_pos (by rfl)]
              go_simp
              have q25 := below_alM (y24) (Obj.cells #[Value.slice none 0 0, .int .i64 0, .int .i64 0, Value.slice none 0 0, Value.slice none 0 0] 36)
              have t25 : Below w13.heap.size w13 ((y24).alloc (Obj.cells #[Value.slice none 0 0, .int .i64 0, .int .i64 0, Value.slice none 0 0, Value.slice none 0 0] 36)) := t24.trans (q25.mono t24.size)
              have r25 : RowOf ((y24).alloc (Obj.cells #[Value.slice none 0 0, .int .i64 0, .int .i64 0, Value.slice none 0 0, Value.slice none 0 0] 36)) y24.heap.size 36 5 (bxf nilV 0 0 nilV nilV) := ⟨_, Deep.blk_alloc_new _ _, by simp, fun j hj => by
            match j, hj with
            | 0, _ => rfl
            | 1, _ => rfl
            | 2, _ => rfl
            | 3, _ => rfl
            | 4, _ => rfl⟩
              have v25 : w13.heap.size ≤ y24.heap.size := t24.size
              have l25 : y24.heap.size < ((y24).alloc (Obj.cells #[Value.slice none 0 0, .int .i64 0, .int .i64 0, Value.slice none 0 0, Value.slice none 0 0] 36)).heap.size := by simp
              refine hK.out _ _ (TA _ t25) (fun hHeld25 => ?_)
              clear hK K hHeld24
              (try simp only [Act.put, List.setIfInBounds_toArray, List.set_cons_zero, List.set_cons_succ])
              refine stepL (i := 11) rfl (by kernel_rfl) (fun K hK => ?_)
              rw [if_pos (by rfl)]
              have A := boxA_new O24 t24 bl24
              go_simp
              have TF : Below w13.heap.size w13 _ := A.b
              refine hK.out _ _ (TA _ A.b) (fun hHeldZ => ?_)
              clear hK K hHeld25
              (try simp only [Act.put, List.setIfInBounds_toArray, List.set_cons_zero, List.set_cons_succ])
              refine takeL (i := 12) (v := ?_) rfl (by kernel_rfl) (by kernel_rfl) (by kernel_rfl) (fun _ _ _ h => h) rfl (by assumption) ?_ ?_
              rotate_left
              · (intro wS hSw; (try dsimp only at hSw); go_simp; try with_reducible rfl)
              (try simp only [Act.put, List.setIfInBounds_toArray, List.set_cons_zero, List.set_cons_succ])
              refine wpAnyH_done (by kernel_rfl) ?_ _
              go_wp2
              go_meet
              case rel => exact ⟨_, _, _, _, _, _, _, _, _, _, _, rfl, rfl, R24, A⟩
            · rw [if_pos (by rfl)]
              go_simp
              have q26 := below_alM (y23) (Obj.cells #[Value.slice none 0 0, .int .i64 0, .int .i64 0, Value.slice none 0 0, Value.slice none 0 0] 36)
              have t26 : Below w13.heap.size w13 ((y23).alloc (Obj.cells #[Value.slice none 0 0, .int .i64 0, .int .i64 0, Value.slice none 0 0, Value.slice none 0 0] 36)) := t23.trans (q26.mono t23.size)
              have r26 : RowOf ((y23).alloc (Obj.cells #[Value.slice none 0 0, .int .i64 0, .int .i64 0, Value.slice none 0 0, Value.slice none 0 0] 36)) y23.heap.size 36 5 (bxf nilV 0 0 nilV nilV) := ⟨_, Deep.blk_alloc_new _ _, by simp, fun j hj => by
            match j, hj with
            | 0, _ => rfl
            | 1, _ => rfl
            | 2, _ => rfl
            | 3, _ => rfl
            | 4, _ => rfl⟩
              have v26 : w13.heap.size ≤ y23.heap.size := t23.size
              have l26 : y23.heap.size < ((y23).alloc (Obj.cells #[Value.slice none 0 0, .int .i64 0, .int .i64 0, Value.slice none 0 0, Value.slice none 0 0] 36)).heap.size := by simp
              have m26 := m23.stays q26
              refine hK.out _ _ (TA _ t26) (fun hHeld26 => ?_)
              clear hK K hHeld23
              (try simp only [Act.put, List.setIfInBounds_toArray, List.set_cons_zero, List.set_cons_succ])
              refine stepL (i := 6) rfl (by kernel_rfl) (fun K hK => ?_)
              rw [if_pos (by rfl)]
              go_simp
              refine Calls.mono (implTxWrite_any _ _ _ m tx t r val _ m26 hs (hL.stays (b13.trans (t26.mono b13.size)))) ?_
              rintro e y27 ⟨v27, o27, code27, rfl, ⟨sa27, sb27, vs27, vt27, ve27, wv27, rfl, O27⟩, R27, q27⟩
              obtain ⟨⟨aa27, ca27, rfl⟩, ⟨ab27, cb27, rfl⟩, ⟨ac27, cc27, rfl⟩⟩ := O27.slices2
              have bl27 : w13.heap.size ≤ ((y23).alloc (Obj.cells #[Value.slice none 0 0, .int .i64 0, .int .i64 0, Value.slice none 0 0, Value.slice none 0 0] 36)).heap.size := t26.size
              have t27 : Below w13.heap.size w13 y27 := t26.trans (q27.mono t26.size)
              have r27 := r26.of_block (q27.block _ l26)
              have l27 : y23.heap.size < y27.heap.size := Nat.lt_of_lt_of_le l26 q27.size
              refine hK.out _ _ (TA _ t27) (fun hHeld27 => ?_)
              clear hK K hHeld26
              (try simp only [Act.put, List.setIfInBounds_toArray, List.set_cons_zero, List.set_cons_succ])
              refine takeL (i := 7) (v := ?_) rfl (by kernel_rfl) (by kernel_rfl) (by kernel_rfl) (fun _ _ _ h => h) rfl (by assumption) ?_ ?_
              rotate_left
              · (intro wS hSw; (try dsimp only at hSw); go_simp; try with_reducible rfl)
              (try simp only [Act.put, List.setIfInBounds_toArray, List.set_cons_zero, List.set_cons_succ])
              refine takeL (i := 8) (v := ?_) rfl (by kernel_rfl) (by kernel_rfl) (by kernel_rfl) (fun _ _ _ h => h) rfl (by assumption) ?_ ?_
              rotate_left
              · (intro wS hSw; (try dsimp only at hSw); go_simp; try with_reducible rfl)
              (try simp only [Act.put, List.setIfInBounds_toArray, List.set_cons_zero, List.set_cons_succ])
              refine takeL (i := 9) (v := ?_) rfl (by kernel_rfl) (by kernel_rfl) (by kernel_rfl) (fun _ _ _ h => h) rfl (by assumption) ?_ ?_
              rotate_left
              · (intro wS hSw; (try dsimp only at hSw); go_simp; try with_reducible rfl)
              (try simp only [Act.put, List.setIfInBounds_toArray, List.set_cons_zero, List.set_cons_succ])
              refine stepL (i := 11) rfl (by kernel_rfl) (fun K hK => ?_)
              rw [if_pos (by rfl)]
              have z0 := r27.cell (show 0 < 5 by omega)
              have z1 := r27.cell (show 1 < 5 by omega)
              have z2 := r27.cell (show 2 < 5 by omega)
              have z3 := r27.cell (show 3 < 5 by omega)
              have z4 := r27.cell (show 4 < 5 by omega)
              have f0 := r27.frozen 0
              have f1 := r27.frozen 1
              have f2 := r27.frozen 2
              have f3 := r27.frozen 3
              have f4 := r27.frozen 4
              simp only [bxf] at z0 z1 z2 z3 z4
              have A := boxA_set O27 t27 (by omega) r27 v26
              go_simp
              have TF : Below w13.heap.size w13 _ := A.b
              refine hK.out _ _ (TA _ A.b) (fun hHeldZ => ?_)
              clear hK K hHeld27
              (try simp only [Act.put, List.setIfInBounds_toArray, List.set_cons_zero, List.set_cons_succ])
              refine takeL (i := 12) (v := ?_) rfl (by kernel_rfl) (by kernel_rfl) (by kernel_rfl) (fun _ _ _ h => h) rfl (by assumption) ?_ ?_
              rotate_left
              · (intro wS hSw; (try dsimp only at hSw); go_simp; try with_reducible rfl)
              (try simp only [Act.put, List.setIfInBounds_toArray, List.set_cons_zero, List.set_cons_succ])
              refine wpAnyH_done (by kernel_rfl) ?_ _
              go_wp2
              go_meet
              case rel => exact ⟨_, _, _, _, _, _, _, _, _, _, _, rfl, rfl, R27, A⟩
          · rw [if_pos (by rfl)]
            go_simp
            have q28 := below_alM (y22) (Obj.cells #[Value.slice none 0 0, .int .i64 0, .int .i64 0, Value.slice none 0 0, Value.slice none 0 0] 36)
            have t28 : Below w13.heap.size w13 ((y22).alloc (Obj.cells #[Value.slice none 0 0, .int .i64 0, .int .i64 0, Value.slice none 0 0, Value.slice none 0 0] 36)) := t22.trans (q28.mono t22.size)
            have r28 : RowOf ((y22).alloc (Obj.cells #[Value.slice none 0 0, .int .i64 0, .int .i64 0, Value.slice none 0 0, Value.slice none 0 0] 36)) y22.heap.size 36 5 (bxf nilV 0 0 nilV nilV) := ⟨_, Deep.blk_alloc_new _ _, by simp, fun j hj => by
            match j, hj with
            | 0, _ => rfl
            | 1, _ => rfl
            | 2, _ => rfl
            | 3, _ => rfl
            | 4, _ => rfl⟩
            have v28 : w13.heap.size ≤ y22.heap.size := t22.size
            have l28 : y22.heap.size < ((y22).alloc (Obj.cells #[Value.slice none 0 0, .int .i64 0, .int .i64 0, Value.slice none 0 0, Value.slice none 0 0] 36)).heap.size := by simp
            have m28 := m22.stays q28
            refine hK.out _ _ (TA _ t28) (fun hHeld28 => ?_)
            clear hK K hHeld22
            (try simp only [Act.put, List.setIfInBounds_toArray, List.set_cons_zero, List.set_cons_succ])
            refine stepL (i := 4) rfl (by kernel_rfl) (fun K hK => ?_)
            rw [if_pos (by rfl)]
            go_simp
            refine Calls.mono (toKey_any t r _) ?_
            rintro e y29 ⟨rfl, q29⟩
            have m29 := m28.stays q29
            have t29 : Below w13.heap.size w13 y29 := t28.trans (q29.mono t28.size)
            have r29 := r28.of_block (q29.block _ l28)
            have l29 : y22.heap.size < y29.heap.size := Nat.lt_of_lt_of_le l28 q29.size
            refine hK.out _ _ (TA _ t29) (fun hHeld29 => ?_)
            clear hK K hHeld28
            (try simp only [Act.put, List.setIfInBounds_toArray, List.set_cons_zero, List.set_cons_succ])
            refine stepL (i := 6) rfl (by kernel_rfl) (fun K hK => ?_)
            rw [if_pos (by rfl)]
            go_simp
            refine Calls.mono (implTxWrite_any _ _ _ m tx t r val _ m29 hs (hL.stays (b13.trans (t29.mono b13.size)))) ?_
            rintro e y30 ⟨v30, o30, code30, rfl, ⟨sa30, sb30, vs30, vt30, ve30, wv30, rfl, O30⟩, R30, q30⟩
            obtain ⟨⟨aa30, ca30, rfl⟩, ⟨ab30, cb30, rfl⟩, ⟨ac30, cc30, rfl⟩⟩ := O30.slices2
            have bl30 : w13.heap.size ≤ y29.heap.size := t29.size
            have t30 : Below w13.heap.size w13 y30 := t29.trans (q30.mono t29.size)
            have r30 := r29.of_block (q30.block _ l29)
            have l30 : y22.heap.size < y30.heap.size := Nat.lt_of_lt_of_le l29 q30.size
            refine hK.out _ _ (TA _ t30) (fun hHeld30 => ?_)
            clear hK K hHeld29
            (try simp only [Act.put, List.setIfInBounds_toArray, List.set_cons_zero, List.set_cons_succ])
            refine takeL (i := 7) (v := ?_) rfl (by kernel_rfl) (by kernel_rfl) (by kernel_rfl) (fun _ _ _ h => h) rfl (by assumption) ?_ ?_
            rotate_left
            · (intro wS hSw; (try dsimp only at hSw); go_simp; try with_reducible rfl)
            (try simp only [Act.put, List.setIfInBounds_toArray, List.set_cons_zero, List.set_cons_succ])
            refine takeL (i := 8) (v := ?_) rfl (by kernel_rfl) (by kernel_rfl) (by kernel_rfl) (fun _ _ _ h => h) rfl (by assumption) ?_ ?_
            rotate_left
            · (intro wS hSw; (try dsimp only at hSw); go_simp; try with_reducible rfl)
            (try simp only [Act.put, List.setIfInBounds_toArray, List.set_cons_zero, List.set_cons_succ])
            refine takeL (i := 9) (v := ?_) rfl (by kernel_rfl) (by kernel_rfl) (by kernel_rfl) (fun _ _ _ h => h) rfl (by assumption) ?_ ?_
            rotate_left
            · (intro wS hSw; (try dsimp only at hSw); go_simp; try with_reducible rfl)
            (try simp only [Act.put, List.setIfInBounds_toArray, List.set_cons_zero, List.set_cons_succ])
            refine stepL (i := 11) rfl (by kernel_rfl) (fun K hK => ?_)
            rw [if_pos (by rfl)]
            have z0 := r30.cell (show 0 < 5 by omega)
            have z1 := r30.cell (show 1 < 5 by omega)
            have z2 := r30.cell (show 2 < 5 by omega)
            have z3 := r30.cell (show 3 < 5 by omega)
            have z4 := r30.cell (show 4 < 5 by omega)
            have f0 := r30.frozen 0
            have f1 := r30.frozen 1
            have f2 := r30.frozen 2
            have f3 := r30.frozen 3
            have f4 := r30.frozen 4
            simp only [bxf] at z0 z1 z2 z3 z4
            have A := boxA_set O30 t30 (by omega) r30 v28
            go_simp
            have TF : Below w13.heap.size w13 _ := A.b
            refine hK.out _ _ (TA _ A.b) (fun hHeldZ => ?_)
            clear hK K hHeld30
            (try simp only [Act.put, List.setIfInBounds_toArray, List.set_cons_zero, List.set_cons_succ])
            refine takeL (i := 12) (v := ?_) rfl (by kernel_rfl) (by kernel_rfl) (by kernel_rfl) (fun _ _ _ h => h) rfl (by assumption) ?_ ?_
            rotate_left
            · (intro wS hSw; (try dsimp only at hSw); go_simp; try with_reducible rfl)
            (try simp only [Act.put, List.setIfInBounds_toArray, List.set_cons_zero, List.set_cons_succ])
            refine wpAnyH_done (by kernel_rfl) ?_ _
            go_wp2
            go_meet
            case rel => exact ⟨_, _, _, _, _, _, _, _, _, _, _, rfl, rfl, R30, A⟩
        · rw [if_pos (by rfl)]
          go_simp
          have q31 := below_alM (w13.drew) (Obj.cells #[Value.slice none 0 0, .int .i64 0, .int .i64 0, Value.slice none 0 0, Value.slice none 0 0] 36)
          have t31 : Below w13.heap.size w13 ((w13.drew).alloc (Obj.cells #[Value.slice none 0 0, .int .i64 0, .int .i64 0, Value.slice none 0 0, Value.slice none 0 0] 36)) := t0.trans (q31.mono t0.size)
          have r31 : RowOf ((w13.drew).alloc (Obj.cells #[Value.slice none 0 0, .int .i64 0, .int .i64 0, Value.slice none 0 0, Value.slice none 0 0] 36)) w13.heap.size 36 5 (bxf nilV 0 0 nilV nilV) := ⟨_, Deep.blk_alloc_new _ _, by simp, fun j hj => by
            match j, hj with
            | 0, _ => rfl
            | 1, _ => rfl
            | 2, _ => rfl
            | 3, _ => rfl
            | 4, _ => rfl⟩
          have v31 : w13.heap.size ≤ w13.heap.size := t0.size
          have l31 : w13.heap.size < ((w13.drew).alloc (Obj.cells #[Value.slice none 0 0, .int .i64 0, .int .i64 0, Value.slice none 0 0, Value.slice none 0 0] 36)).heap.size := by simp
          refine hK.out _ _ (TA _ t31) (fun hHeld31 => ?_)
          clear hK K hHeld0
          (try simp only [Act.put, List.setIfInBounds_toArray, List.set_cons_zero, List.set_cons_succ])
          refine stepL (i := 1) rfl (by kernel_rfl) (fun K hK => ?_)
          rw [if_pos (by rfl)]
          go_simp
          refine Calls.mono (toMgr_own _ _ _ m _ (h.stays (b13.trans (t31.mono b13.size))) hs) ?_
          rintro e y32 ⟨bs32, Bs32, bt32, Bt32, be32, rfl, hv32, q32⟩
          have m32 := hv32.at hs m.s.length m.x.length m.h.length
          have t32 : Below w13.heap.size w13 y32 := t31.trans (q32.mono t31.size)
          have r32 := r31.of_block (q32.block _ l31)
          have l32 : w13.heap.size < y32.heap.size := Nat.lt_of_lt_of_le l31 q32.size
          refine hK.out _ _ (TA _ t32) (fun hHeld32 => ?_)
          clear hK K hHeld31
          (try simp only [Act.put, List.setIfInBounds_toArray, List.set_cons_zero, List.set_cons_succ])
          refine stepL (i := 4) rfl (by kernel_rfl) (fun K hK => ?_)
          rw [if_pos (by rfl)]
          go_simp
          refine Calls.mono (toKey_any t r _) ?_
          rintro e y33 ⟨rfl, q33⟩
          have m33 := m32.stays q33
          have t33 : Below w13.heap.size w13 y33 := t32.trans (q33.mono t32.size)
          have r33 := r32.of_block (q33.block _ l32)
          have l33 : w13.heap.size < y33.heap.size := Nat.lt_of_lt_of_le l32 q33.size
          refine hK.out _ _ (TA _ t33) (fun hHeld33 => ?_)
          clear hK K hHeld32
          (try simp only [Act.put, List.setIfInBounds_toArray, List.set_cons_zero, List.set_cons_succ])
          refine stepL (i := 6) rfl (by kernel_rfl) (fun K hK => ?_)
          rw [if_pos (by rfl)]
          go_simp
          refine Calls.mono (implTxWrite_any _ _ _ m tx t r val _ m33 hs (hL.stays (b13.trans (t33.mono b13.size)))) ?_
          rintro e y34 ⟨v34, o34, code34, rfl, ⟨sa34, sb34, vs34, vt34, ve34, wv34, rfl, O34⟩, R34, q34⟩
          obtain ⟨⟨aa34, ca34, rfl⟩, ⟨ab34, cb34, rfl⟩, ⟨ac34, cc34, rfl⟩⟩ := O34.slices2
          have bl34 : w13.heap.size ≤ y33.heap.size := t33.size
          have t34 : Below w13.heap.size w13 y34 := t33.trans (q34.mono t33.size)
          have r34 := r33.of_block (q34.block _ l33)
          have l34 : w13.heap.size < y34.heap.size := Nat.lt_of_lt_of_le l33 q34.size
          refine hK.out _ _ (TA _ t34) (fun hHeld34 => ?_)
          clear hK K hHeld33
          (try simp only [Act.put, List.setIfInBounds_toArray, List.set_cons_zero, List.set_cons_succ])
          refine takeL (i := 7) (v := ?_) rfl (by kernel_rfl) (by kernel_rfl) (by kernel_rfl) (fun _ _ _ h => h) rfl (by assumption) ?_ ?_
          rotate_left
          · (intro wS hSw; (try dsimp only at hSw); go_simp; try with_reducible rfl)
          (try simp only [Act.put, List.setIfInBounds_toArray, List.set_cons_zero, List.set_cons_succ])
          refine takeL (i := 8) (v := ?_) rfl (by kernel_rfl) (by kernel_rfl) (by kernel_rfl) (fun _ _ _ h => h) rfl (by assumption) ?_ ?_
          rotate_left
          · (intro wS hSw; (try dsimp only at hSw); go_simp; try with_reducible rfl)
          (try simp only [Act.put, List.setIfInBounds_toArray, List.set_cons_zero, List.set_cons_succ])
          refine takeL (i := 9) (v := ?_) rfl (by kernel_rfl) (by kernel_rfl) (by kernel_rfl) (fun _ _ _ h => h) rfl (by assumption) ?_ ?_
          rotate_left
          · (intro wS hSw; (try dsimp only at hSw); go_simp; try with_reducible rfl)
          (try simp only [Act.put, List.setIfInBounds_toArray, List.set_cons_zero, List.set_cons_succ])
          refine stepL (i := 11) rfl (by kernel_rfl) (fun K hK => ?_)
          rw [if_pos (by rfl)]
          have z0 := r34.cell (show 0 < 5 by omega)
          have z1 := r34.cell (show 1 < 5 by omega)
          have z2 := r34.cell (show 2 < 5 by omega)
          have z3 := r34.cell (show 3 < 5 by omega)
          have z4 := r34.cell (show 4 < 5 by omega)
          have f0 := r34.frozen 0
          have f1 := r34.frozen 1
          have f2 := r34.frozen 2
          have f3 := r34.frozen 3
          have f4 := r34.frozen 4
          simp only [bxf] at z0 z1 z2 z3 z4
          have A := boxA_set O34 t34 (by omega) r34 v31
          go_simp
          have TF : Below w13.heap.size w13 _ := A.b
          refine hK.out _ _ (TA _ A.b) (fun hHeldZ => ?_)
          clear hK K hHeld34
          (try simp only [Act.put, List.setIfInBounds_toArray, List.set_cons_zero, List.set_cons_succ])
          refine takeL (i := 12) (v := ?_) rfl (by kernel_rfl) (by kernel_rfl) (by kernel_rfl) (fun _ _ _ h => h) rfl (by assumption) ?_ ?_
          rotate_left
          · (intro wS hSw; (try dsimp only at hSw); go_simp; try with_reducible rfl)
          (try simp only [Act.put, List.setIfInBounds_toArray, List.set_cons_zero, List.set_cons_succ])
          refine wpAnyH_done (by kernel_rfl) ?_ _
          go_wp2
          go_meet
          case rel => exact ⟨_, _, _, _, _, _, _, _, _, _, _, rfl, rfl, R34, A⟩
      case rest =>
        obtain ⟨V3, o15, code15, vs15, vt15, ve15, lo15, hi15, s150, s151, wv15, rfl, rfl, hR15, A15⟩ := hcut
        obtain ⟨e0, e1⟩ := HR.out.one hR15
        subst e0 e1
        obtain ⟨⟨a151, c151, rfl⟩, ⟨a152, c152, rfl⟩, ⟨a153, c153, rfl⟩⟩ := A15.own.slices2
        have S16 := S13.stays A15.b
        have K16 := K13.stays A15.b
        have O16 := A15.own
        have pH := A15.box
        generalize hw16 : wc = W16 at *
        clear hw16 S13 K13 A15 hR15 b13 r0 r1 r2 r3 r4 r5 r6
        obtain ⟨_, pa, ka, pw, px', pg, _⟩ := id S16
        obtain ⟨f0, f1, f2, f3, f4⟩ := pw
        obtain ⟨g0, g1, g2, g3, g4⟩ := pH
        clear pg px' pa ka
        go_wp2_with fail
        refine (eqMgr_same _ _ _ _ _ _ o _ (O16.mat hsm) S16.ow).mono ?_
        rintro e w17 ⟨rfl, hb17⟩
        have S17 := S16.stays hb17
        have K17 := K16.stays hb17
        clear S16 K16 O16 hb17 f0 f1 f2 f3 f4 g0 g1 g2 g3 g4
        obtain ⟨_, pa, ka, pw, px', pg, _⟩ := id S17
        obtain ⟨g0, g1, g2, g3, g4⟩ := pg
        clear pa px' pw ka
        go_wp2_with fail
        refine (heldMgr_any _ _ _ _ _ _ _ _ o wv6 K17 hsm ⟨_, _, rfl⟩ ⟨_, _, rfl⟩ ⟨_, _, rfl⟩).mono ?_
        rintro e w18 ⟨rfl, hb18⟩
        have b18 := (S17.stays hb18).b
        clear S17 K17 hb18 g0 g1 g2 g3 g4
        go_wp2
        go_ret
        exact ⟨rfl, b18⟩

set_option maxRecDepth 100000 in
theorem liftedTxWrite (os : Os) (started : os.Started) (H : Type) (enc : TypeId × Value → H) :
    ReturnsInHanded {} Tryz.checked os 5 .any (fun w args => (Rows.fnExactTxWriteSpec.pre enc Tryz.prog Tryz.f5 Rows.fnExactTxWriteRow.domain false w args ∧ laidMetH Tryz.prog laidL w) ∧ sizedMet enc Tryz.prog Tryz.f5 (OpenSpec.ofChange Rows.fnExactTxWriteSpec) false w args)
      (Rows.fnExactTxWriteSpec.post enc Tryz.prog Tryz.f5 false true false false) := by
  refine returnsInHanded_of_change_and (C := Tryz.checked) (X := fun w _ => laidMetH Tryz.prog laidL w) (fun _ _ _ hh h => h.of_heap hh) own started (by kernel_rfl) Tryz.func5
    (ChangeSpec.witness_at (enc := enc) (C := Tryz.checked) (os := os) (X := fun w _ => laidMetH Tryz.prog laidL w) false (laidWorld os) #[.agg #[.slice none 0 0, .int .i64 0, .int .i64 0, .slice none 0 0, .slice none 0 0], .int .i64 0, .agg #[.int .i64 0, .int .i64 0], .int .i64 0] 8 rfl (by kernel_rfl) (by kernel_rfl) (by kernel_rfl) (by kernel_rfl) (by kernel_rfl) (laidWorld_met os _)) ?_
  intro W base args ds gs before hval0 hW _ _ hL _
  have hval : ∀ (j : Nat) t v, Tryz.f5.params[j]? = some t → args[j]? = some v → Value.okWide Tryz.prog W .any base t v := hval0
  have hW' := hW
  obtain ⟨p, q, hA0, hV, rfl, hfz, hnd⟩ := hW
  have hA : DataW.TrodAll enc Tryz.prog W 0 (fun _ => true) true Tryz.f5.params.toList args.toList ds p := hA0
  rw [Tryz.params5] at hA hval
  obtain ⟨v0, vs0, d0, ds0, p0, q0, hargs, rfl, rfl, h0, r0⟩ := trodAll_cons hA
  obtain ⟨v1, vs1, d1, ds1, p1, q1, rfl, rfl, rfl, h1, r1⟩ := trodAll_cons r0
  obtain ⟨v2, vs2, d2, ds2, p2, q2, rfl, rfl, rfl, h2, r2⟩ := trodAll_cons r1
  obtain ⟨v3, vs3, d3, ds3, p3, q3, rfl, rfl, rfl, h3, r3⟩ := trodAll_cons r2
  obtain ⟨rfl, rfl, rfl⟩ := trodAll_nil r3
  obtain rfl : args = #[v0, v1, v2, v3] := by cases args; simp_all
  obtain ⟨rfl, rfl⟩ := trodVars_none hV
  have k0 := h0
  have k1 := h1
  have k2 := h2
  have k3 := h3
  have lt0 : ∀ x ∈ p0, x.block < W.heap.size := by obtain ⟨m, hm⟩ := k0; exact DataW.trod_lt m _ _ _ hm
  have lt1 : ∀ x ∈ p1, x.block < W.heap.size := by obtain ⟨m, hm⟩ := k1; exact DataW.trod_lt m _ _ _ hm
  have lt2 : ∀ x ∈ p2, x.block < W.heap.size := by obtain ⟨m, hm⟩ := k2; exact DataW.trod_lt m _ _ _ hm
  have lt3 : ∀ x ∈ p3, x.block < W.heap.size := by obtain ⟨m, hm⟩ := k3; exact DataW.trod_lt m _ _ _ hm
  obtain ⟨vs, vt, ve, m, rfl, hl, hwf⟩ := open_mgr (hval 0 28 v0 rfl rfl) h0
  obtain ⟨tx, rfl, rfl, rfl, wtx⟩ := open_int Tryz.underlying3 (hval 1 3 v1 rfl rfl) h1
  obtain ⟨t, r, rfl, wt, wr⟩ := open_key (hval 2 44 v2 rfl rfl) h2
  obtain ⟨val, rfl, rfl, rfl, wval⟩ := open_int Tryz.underlying3 (hval 3 3 v3 rfl rfl) h3
  clear hA0 hval0
  refine (exactTxWrite_any vs vt ve m tx t r val W hl (laid_of_met hL)).mono fun e W' ⟨he, bel⟩ => ?_
  subst he
  exact ⟨_, rfl, _, _, _, [], _, [], hW', trodAll_mk1 (shut_bool Tryz.underlying4 _), trodAll_cons_mk (Below.trod laidOut (by kernel_rfl) (of_decide_eq_true (by kernel_rfl)) k0 bel lt0) (trodAll_cons_mk (Below.trod laidOut (by kernel_rfl) (of_decide_eq_true (by kernel_rfl)) k1 bel lt1) (trodAll_cons_mk (Below.trod laidOut (by kernel_rfl) (of_decide_eq_true (by kernel_rfl)) k2 bel lt2) (trodAll_cons_mk (Below.trod laidOut (by kernel_rfl) (of_decide_eq_true (by kernel_rfl)) k3 bel lt3) trodAll_mk0))), rfl, bel.frame _, fun h => by cases h⟩

theorem exactTxWrite_row : Rows.FnExactTxWriteSaid :=
  OpenClaim.holds_of_wide 5 Tryz.f5 rfl rfl rfl rfl rfl rfl rfl ⟨rfl, rfl, rfl, rfl, rfl⟩ rfl rfl rfl rfl rfl (by kernel_rfl) Tryz.func5 (by kernel_rfl)
    (of_decide_eq_true (by kernel_rfl)) (by unfold Func.isWrapper; first | (rw [if_pos (by decide +kernel)]; kernel_rfl) | (rw [if_neg (by decide +kernel)]; exact ⟨rfl, rfl⟩))
    (fun os started H enc _ => liftedTxWrite os started H enc)

theorem exactTxWrite_holds : Rows.FnExactTxWriteCardSaid :=
  Claim7.holds_tied_plain_at .later [] [.handle] true (true, "16bbb8f8f4b840752c4bacd6aeed18ef8d9a8d8892ae63030fad336b7b91feaf") true
    exactTxWrite_row (fun _ h => by cases h) (by kernel_rfl) (fun _ h => by cases h) fnExactTxWrite_row_tie rfl ⟨rfl, rfl⟩ (by kernel_rfl) rfl
    (fun f fn hf hfn => by
      obtain rfl : f = 5 := Option.some.inj ((show Tryz.prog.funcNamed "loop.example/g00689/laws.FnExactTxWrite" = some 5 by kernel_rfl).symm.trans hf) |>.symm
      obtain rfl : fn = Tryz.f5 := (Option.some.inj (Tryz.func5.symm.trans hfn)).symm
      exact ⟨by kernel_rfl, fun j t ht => by
        rw [Tryz.params5] at ht
        rcases j with _ | _ | _ | _ | j
        · obtain rfl : t = 28 := by simpa using ht.symm
          exact (show Tryz.prog.wantsStandIn 28 = false by kernel_rfl)
        · obtain rfl : t = 3 := by simpa using ht.symm
          exact (show Tryz.prog.wantsStandIn 3 = false by kernel_rfl)
        · obtain rfl : t = 44 := by simpa using ht.symm
          exact (show Tryz.prog.wantsStandIn 44 = false by kernel_rfl)
        · obtain rfl : t = 3 := by simpa using ht.symm
          exact (show Tryz.prog.wantsStandIn 3 = false by kernel_rfl)
        · simp at ht⟩)
    (by kernel_rfl)
#print axioms exactTxWrite_holds
end Go.Proofs.YtmecbppblbmchaaGreatDoor
