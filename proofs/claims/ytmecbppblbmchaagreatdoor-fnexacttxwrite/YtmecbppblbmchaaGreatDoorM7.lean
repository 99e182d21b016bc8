import Derived.Test.YtmecbppblbmchaaGreatDoorM3
import Derived.Test.YtmecbppblbmchaaGreatDoorM5
/- The specification's l2begin. -/
namespace Go.Proofs.YtmecbppblbmchaaGreatDoor
open Go.ChangeShapes Go.WideShapes Go.ChangeAt Go.RowKit Go.Sort
set_option linter.unusedVariables false
set_option maxRecDepth 100000
attribute [local go_sem ↓] Go.wp_at_zero Go.wp_at_succ

set_option maxHeartbeats 4000000 in
theorem l2begin_any (base B s0 s1 : Nat) (vs vt ve : Value) (m : Md) (wv : Nat → Value) (w : World) (h : PtrM base w B s0 s1 vs vt ve m wv) (hn : SmallM' m) (hok : mgrOk m) :
    Calls Tryz.prog 29 #[.pointer (some ⟨B, 0, none⟩)] w fun e w' => Below base w w' ∧
      ((roomB m ∧ e = .returned (.tuple #[.int .i64 m.n, .int .i64 0]) ∧ ∃ vt' ve' wv', PtrM base w' B s0 s1 vs vt' ve' (begM m) wv') ∨
       (¬ roomB m ∧ e = .returned (.tuple #[.int .i64 0, .int .i64 2]))) := by
  have hM := h.own.mat hn
  obtain ⟨a1, cap1, hv1⟩ : ∃ a cap, vs = .slice a m.s.length cap := by obtain ⟨a, cap, h1, _⟩ := hM.s; exact ⟨a, cap, h1⟩
  obtain ⟨a2, cap2, hv2⟩ : ∃ a cap, vt = .slice a m.x.length cap := by obtain ⟨a, cap, h1, _⟩ := hM.x; exact ⟨a, cap, h1⟩
  obtain ⟨a3, cap3, hv3⟩ : ∃ a cap, ve = .slice a m.h.length cap := by obtain ⟨a, cap, h1, _⟩ := hM.h; exact ⟨a, cap, h1⟩
  subst hv1 hv2 hv3
  obtain ⟨x0, x1, x2, x3, x4⟩ := h.mbox
  clear hM
  have hbase := h.base
  have hBl := h.box.lt
  have hxl := hn.x
  have hhl := hn.h
  obtain ⟨hs1, hc1, hn1, hn2, hh1, _, _⟩ := hok
  have hc0 : 0 ≤ m.c := by simp only [hourB, decide_eq_true_eq] at hc1; exact hc1.1
  clear hc1 hs1 hh1
  go_enter Tryz.func29, Tryz.ntmps29
  by_cases e8 : m.x.length = 8
  · have hd : ((m.x.length : Int) == 8) = true := by simp; omega
    have hno : Hid (¬ roomB m) := fun hh => hh.1 e8
    change Hid _ at e8
    go_wp2
    go_ret2
    exact ⟨Below.refl _ _, .inr ⟨hno.out, rfl⟩⟩
  have hd8 : ((m.x.length : Int) == 8) = false := by simp; omega
  by_cases ec : (999998 : Int) < m.c
  · have hno : Hid (¬ roomB m) := fun hh => by have := hh.2.1; omega
    go_wp2
    go_ret2
    exact ⟨Below.refl _ _, .inr ⟨hno.out, rfl⟩⟩
  by_cases en : m.n = 1000000
  · have hno : Hid (¬ roomB m) := fun hh => hh.2.2.1 en
    have hd : (m.n == 1000000) = true := by simpa using en
    change Hid _ at en
    go_wp2
    go_ret2
    exact ⟨Below.refl _ _, .inr ⟨hno.out, rfl⟩⟩
  have hdn : (m.n == 1000000) = false := by simpa using en
  have hnn : Hid (m.n ≠ 1000000) := en
  clear en
  by_cases eh : (2998 : Int) < (m.h.length : Int)
  · have hno : Hid (¬ roomB m) := fun hh => by have := hh.2.2.2; omega
    go_wp2
    go_ret2
    exact ⟨Below.refl _ _, .inr ⟨hno.out, rfl⟩⟩
  have hroom : roomB m := ⟨e8, by omega, hnn.out, by omega⟩
  have HR : Hid (roomB m) := hroom
  clear hroom
  have f1 := (h.cell (j := 1) (by omega)).2
  have f2 := (h.cell (j := 2) (by omega)).2
  have h4 := (h.setC (m.c + 1)).setN (m.n + 1)
  have b4 := ((Below.refl base w).setCell (p := ⟨B, 1, none⟩) hbase (.int .i64 (m.c + 1))).setCell (p := ⟨B, 2, none⟩) hbase (.int .i64 (m.n + 1))
  go_wp2_with fail
  generalize (w.setCell ⟨B, 1, none⟩ (.int .i64 (m.c + 1))).setCell ⟨B, 2, none⟩ (.int .i64 (m.n + 1)) = W4 at *
  obtain ⟨c1, _⟩ := h4.cell (j := 1) (by omega)
  obtain ⟨c3, _⟩ := h4.cell (j := 3) (by omega)
  simp only [bxf] at c1 c3
  obtain ⟨ti, hI, hz0, hz1, hz2⟩ := info_parts infoTx
  have hzW4 : base ≤ W4.heap.size := by have := h4.box.lt; omega
  have bD := (Below.refl W4.heap.size W4).drew
  refine region_last (fun x => x.cell? ⟨B, 1, none⟩ = some (.int .i64 (m.c + 1)) ∧ x.cell? ⟨B, 3, none⟩ = some (.slice a2 m.x.length cap2)) (by kernel_rfl) (by kernel_rfl) (by kernel_rfl) ⟨cell_stays bD c1, cell_stays bD c3⟩ (fun hHeld0 => ?_)
  simp only [List.dropLast, List.length_cons, List.length_nil, Nat.reduceAdd]
  have hbt := build_tx m.n (m.c + 1)
  refine takeL (i := 0) (v := ?_) rfl (by kernel_rfl) (by kernel_rfl) (by kernel_rfl) (fun _ _ _ h => h) rfl (by assumption) ?_ ?_
  rotate_left
  · (intro wS hSw; (try dsimp only at hSw); go_simp; try with_reducible rfl)
  (try simp only [Act.put, List.setIfInBounds_toArray, List.set_cons_zero, List.set_cons_succ])
  refine takeL (i := 1) (v := ?_) rfl (by kernel_rfl) (by kernel_rfl) (by kernel_rfl) (fun _ _ _ h => h) rfl (by assumption) ?_ ?_
  rotate_left
  · (intro wS hSw; (try dsimp only at hSw); go_simp; try with_reducible rfl)
  (try simp only [Act.put, List.setIfInBounds_toArray, List.set_cons_zero, List.set_cons_succ])
  refine takeL (i := 2) (v := ?_) rfl (by kernel_rfl) (by kernel_rfl) (by kernel_rfl) (fun _ _ _ h => h) rfl (by assumption) ?_ ?_
  rotate_left
  · (intro wS hSw; (try dsimp only at hSw); go_simp; try with_reducible rfl)
  (try simp only [Act.put, List.setIfInBounds_toArray, List.set_cons_zero, List.set_cons_succ])
  refine takeL (i := 3) (v := ?_) rfl (by kernel_rfl) (by kernel_rfl) (by kernel_rfl) (fun _ _ _ h => h) rfl (by assumption) ?_ ?_
  rotate_left
  · (intro wS hSw; (try dsimp only at hSw); go_simp; try with_reducible rfl)
  (try simp only [Act.put, List.setIfInBounds_toArray, List.set_cons_zero, List.set_cons_succ])
  refine takeL (i := 4) (v := ?_) rfl (by kernel_rfl) (by kernel_rfl) (by kernel_rfl) (fun _ _ _ h => h) rfl (by assumption) ?_ ?_
  rotate_left
  · (intro wS hSw; (try dsimp only at hSw); go_simp; try with_reducible rfl)
  (try simp only [Act.put, List.setIfInBounds_toArray, List.set_cons_zero, List.set_cons_succ])
  refine takeL (i := 5) (v := ?_) rfl (by kernel_rfl) (by kernel_rfl) (by kernel_rfl) (fun _ _ _ h => h) rfl (by assumption) ?_ ?_
  rotate_left
  · (intro wS hSw; (try dsimp only at hSw); go_simp; try with_reducible rfl)
  (try simp only [Act.put, List.setIfInBounds_toArray, List.set_cons_zero, List.set_cons_succ])
  refine takeL (i := 6) (v := ?_) rfl (by kernel_rfl) (by kernel_rfl) (by kernel_rfl) (fun _ _ _ h => h) rfl (by assumption) ?_ ?_
  rotate_left
  · (intro wS hSw; (try dsimp only at hSw); go_simp; try with_reducible rfl)
  (try simp only [Act.put, List.setIfInBounds_toArray, List.set_cons_zero, List.set_cons_succ])
  refine takeL (i := 7) (v := ?_) rfl (by kernel_rfl) (by kernel_rfl) (by kernel_rfl) (fun _ _ _ h => h) rfl (by assumption) ?_ ?_
  rotate_left
  · (intro wS hSw; (try dsimp only at hSw); go_simp; try with_reducible rfl)
  (try simp only [Act.put, List.setIfInBounds_toArray, List.set_cons_zero, List.set_cons_succ])
  refine takeL (i := 8) (v := ?_) rfl (by kernel_rfl) (by kernel_rfl) (by kernel_rfl) (fun _ _ _ h => h) rfl (by assumption) ?_ ?_
  rotate_left
  · (intro wS hSw; (try dsimp only at hSw); go_simp; try with_reducible rfl)
  (try simp only [Act.put, List.setIfInBounds_toArray, List.set_cons_zero, List.set_cons_succ])
  refine takeL (i := 9) (v := ?_) rfl (by kernel_rfl) (by kernel_rfl) (by kernel_rfl) (fun _ _ _ h => h) rfl (by assumption) ?_ ?_
  rotate_left
  · (intro wS hSw; (try dsimp only at hSw); go_simp; try with_reducible rfl)
  (try simp only [Act.put, List.setIfInBounds_toArray, List.set_cons_zero, List.set_cons_succ])
  refine takeL (i := 10) (v := ?_) rfl (by kernel_rfl) (by kernel_rfl) (by kernel_rfl) (fun _ _ _ h => h) rfl (by assumption) ?_ ?_
  rotate_left
  · (intro wS hSw; (try dsimp only at hSw); go_simp; try with_reducible rfl)
  (try simp only [Act.put, List.setIfInBounds_toArray, List.set_cons_zero, List.set_cons_succ])
  refine stepL (i := 11) rfl (by kernel_rfl) (fun K hK => ?_)
  rw [if_pos (by rfl)]
  go_simp
  have bA := bD.alloc (by exact Nat.le_refl _) (Obj.cells #[.int .i64 m.n, .int .i64 (m.c + 1), .slice none 0 0] 97)
  refine hK.out _ _ ⟨cell_stays bA c1, cell_stays bA c3⟩ (fun hHeld1 => ?_)
  clear hK K hHeld0
  (try simp only [Act.put, List.setIfInBounds_toArray, List.set_cons_zero, List.set_cons_succ])
  refine stepL (i := 12) rfl (by kernel_rfl) (fun K hK => ?_)
  have hXA := owns_keepM h4.own.x fun g hg hl => bA.block g hl
  refine step_append_lies _ (by rfl) _ _ _ (by rfl) base 97 ti _ 3 40 Tryz.underlying33 hI hz0 hz1 hz2 rfl (by omega) (.slice a2 m.x.length cap2) m.x.length (txc m.x wv) (by rfl) hXA ⟨W4.heap.size, 0, none⟩ 1 1 [.int .i64 m.n, .int .i64 (m.c + 1), .slice none 0 0] (by rfl) (by rfl) (newsM W4.drew _ _) (by intro u hu; simp at hu; rcases hu with rfl | rfl | rfl <;> rfl) (by omega) (by unfold maxLen; omega) (by omega) (by simp; omega) (W4.heap.size + 1) (by simp) ?_
  intro gg cap5 w5 hown5 hgrow5 hat5 hlt5
  have hnB := h4.apart 0 (by omega)
  have k5 : ∀ (o : Nat) (u : Value), W4.cell? ⟨B, o, none⟩ = some u → w5.cell? ⟨B, o, none⟩ = some u := fun o u hu => cell_same (hgrow5.block B (Nat.lt_of_lt_of_le h4.box.lt (by have := bA.size; exact this)) (fun e => hnB e.symm)) (cell_stays bA hu)
  refine hK.out _ _ ⟨k5 _ _ c1, k5 _ _ c3⟩ (fun hHeld2 => ?_)
  clear hK K hHeld1
  (try simp only [Act.put, List.setIfInBounds_toArray, List.set_cons_zero, List.set_cons_succ])
  refine takeL (i := 13) (v := ?_) rfl (by kernel_rfl) (by kernel_rfl) (by kernel_rfl) (fun _ _ _ h => h) rfl (by assumption) ?_ ?_
  rotate_left
  · (intro wS hSw; (try dsimp only at hSw); go_simp; try with_reducible rfl)
  (try simp only [Act.put, List.setIfInBounds_toArray, List.set_cons_zero, List.set_cons_succ])
  refine takeL (i := 14) (v := ?_) rfl (by kernel_rfl) (by kernel_rfl) (by kernel_rfl) (fun _ _ _ h => h) rfl (by assumption) ?_ ?_
  rotate_left
  · (intro wS hSw; (try dsimp only at hSw); go_simp; try with_reducible rfl)
  (try simp only [Act.put, List.setIfInBounds_toArray, List.set_cons_zero, List.set_cons_succ])
  have hB5 := h4.box.of_block (show w5.heap[B]? = W4.heap[B]? from (hgrow5.block B (Nat.lt_of_lt_of_le h4.box.lt (by have := bA.size; exact this)) (fun e => hnB e.symm)).trans (bA.block B h4.box.lt))
  have q3 := hB5.cell (show 3 < 5 by omega)
  have qf := hB5.frozen 3
  obtain ⟨P5, bP5⟩ := h4.pushTx bA hgrow5 hown5 (by rcases hat5 with e | e; exact .inl e; exact .inr (by omega))
  refine wpAnyH_done (by kernel_rfl) ?_ _
  refine lastL (n := 15) rfl rfl ?_
  go_simp
  have b5 := b4.trans bP5
  clear hHeld2 q3 qf hB5 k5 hnB hlt5 hat5 hgrow5 hown5 hXA bA bD hbt hI hz0 hz1 hz2 c1 c3 h4 b4 x1 x2 f1 f2
  generalize w5.setCell ⟨B, 3, none⟩ (.slice (some ⟨gg, 0, none⟩) (m.x.length + 1) cap5) = W6 at *
  have h6 := P5
  have b6 := b5
  clear P5 b5 bP5
  go_wp2_with fail
  obtain ⟨c1, _⟩ := h6.cell (j := 1) (by omega)
  obtain ⟨c4, _⟩ := h6.cell (j := 4) (by omega)
  simp only [bxf] at c1 c4
  obtain ⟨ti, hI, hz0, hz1, hz2⟩ := info_parts infoEv
  have hzW6 : base ≤ W6.heap.size := by have := h6.box.lt; omega
  have bD := (Below.refl W6.heap.size W6).drew
  refine region_last (fun x => x.cell? ⟨B, 1, none⟩ = some (.int .i64 (m.c + 1)) ∧ x.cell? ⟨B, 4, none⟩ = some (.slice a3 m.h.length cap3)) (by kernel_rfl) (by kernel_rfl) (by kernel_rfl) ⟨cell_stays bD c1, cell_stays bD c4⟩ (fun hHeld0 => ?_)
  simp only [List.dropLast, List.length_cons, List.length_nil, Nat.reduceAdd]
  have hbt := build_evB m.n (m.c + 1)
  refine takeL (i := 0) (v := ?_) rfl (by kernel_rfl) (by kernel_rfl) (by kernel_rfl) (fun _ _ _ h => h) rfl (by assumption) ?_ ?_
  rotate_left
  · (intro wS hSw; (try dsimp only at hSw); go_simp; try with_reducible rfl)
  (try simp only [Act.put, List.setIfInBounds_toArray, List.set_cons_zero, List.set_cons_succ])
  refine takeL (i := 1) (v := ?_) rfl (by kernel_rfl) (by kernel_rfl) (by kernel_rfl) (fun _ _ _ h => h) rfl (by assumption) ?_ ?_
  rotate_left
  · (intro wS hSw; (try dsimp only at hSw); go_simp; try with_reducible rfl)
  (try simp only [Act.put, List.setIfInBounds_toArray, List.set_cons_zero, List.set_cons_succ])
  refine takeL (i := 2) (v := ?_) rfl (by kernel_rfl) (by kernel_rfl) (by kernel_rfl) (fun _ _ _ h => h) rfl (by assumption) ?_ ?_
  rotate_left
  · (intro wS hSw; (try dsimp only at hSw); go_simp; try with_reducible rfl)
  (try simp only [Act.put, List.setIfInBounds_toArray, List.set_cons_zero, List.set_cons_succ])
  refine takeL (i := 3) (v := ?_) rfl (by kernel_rfl) (by kernel_rfl) (by kernel_rfl) (fun _ _ _ h => h) rfl (by assumption) ?_ ?_
  rotate_left
  · (intro wS hSw; (try dsimp only at hSw); go_simp; try with_reducible rfl)
  (try simp only [Act.put, List.setIfInBounds_toArray, List.set_cons_zero, List.set_cons_succ])
  refine takeL (i := 4) (v := ?_) rfl (by kernel_rfl) (by kernel_rfl) (by kernel_rfl) (fun _ _ _ h => h) rfl (by assumption) ?_ ?_
  rotate_left
  · (intro wS hSw; (try dsimp only at hSw); go_simp; try with_reducible rfl)
  (try simp only [Act.put, List.setIfInBounds_toArray, List.set_cons_zero, List.set_cons_succ])
  refine takeL (i := 5) (v := ?_) rfl (by kernel_rfl) (by kernel_rfl) (by kernel_rfl) (fun _ _ _ h => h) rfl (by assumption) ?_ ?_
  rotate_left
  · (intro wS hSw; (try dsimp only at hSw); go_simp; try with_reducible rfl)
  (try simp only [Act.put, List.setIfInBounds_toArray, List.set_cons_zero, List.set_cons_succ])
  refine takeL (i := 6) (v := ?_) rfl (by kernel_rfl) (by kernel_rfl) (by kernel_rfl) (fun _ _ _ h => h) rfl (by assumption) ?_ ?_
  rotate_left
  · (intro wS hSw; (try dsimp only at hSw); go_simp; try with_reducible rfl)
  (try simp only [Act.put, List.setIfInBounds_toArray, List.set_cons_zero, List.set_cons_succ])
  refine takeL (i := 7) (v := ?_) rfl (by kernel_rfl) (by kernel_rfl) (by kernel_rfl) (fun _ _ _ h => h) rfl (by assumption) ?_ ?_
  rotate_left
  · (intro wS hSw; (try dsimp only at hSw); go_simp; try with_reducible rfl)
  (try simp only [Act.put, List.setIfInBounds_toArray, List.set_cons_zero, List.set_cons_succ])
  refine takeL (i := 8) (v := ?_) rfl (by kernel_rfl) (by kernel_rfl) (by kernel_rfl) (fun _ _ _ h => h) rfl (by assumption) ?_ ?_
  rotate_left
  · (intro wS hSw; (try dsimp only at hSw); go_simp; try with_reducible rfl)
  (try simp only [Act.put, List.setIfInBounds_toArray, List.set_cons_zero, List.set_cons_succ])
  refine takeL (i := 9) (v := ?_) rfl (by kernel_rfl) (by kernel_rfl) (by kernel_rfl) (fun _ _ _ h => h) rfl (by assumption) ?_ ?_
  rotate_left
  · (intro wS hSw; (try dsimp only at hSw); go_simp; try with_reducible rfl)
  (try simp only [Act.put, List.setIfInBounds_toArray, List.set_cons_zero, List.set_cons_succ])
  refine takeL (i := 10) (v := ?_) rfl (by kernel_rfl) (by kernel_rfl) (by kernel_rfl) (fun _ _ _ h => h) rfl (by assumption) ?_ ?_
  rotate_left
  · (intro wS hSw; (try dsimp only at hSw); go_simp; try with_reducible rfl)
  (try simp only [Act.put, List.setIfInBounds_toArray, List.set_cons_zero, List.set_cons_succ])
  refine stepL (i := 11) rfl (by kernel_rfl) (fun K hK => ?_)
  rw [if_pos (by rfl)]
  go_simp
  have bA := bD.alloc (by exact Nat.le_refl _) (Obj.cells #[.int .i64 1, .int .i64 m.n, .int .i64 0, .int .i64 0, .int .i64 0, .int .i64 (m.c + 1)] 101)
  refine hK.out _ _ ⟨cell_stays bA c1, cell_stays bA c4⟩ (fun hHeld1 => ?_)
  clear hK K hHeld0
  (try simp only [Act.put, List.setIfInBounds_toArray, List.set_cons_zero, List.set_cons_succ])
  refine stepL (i := 12) rfl (by kernel_rfl) (fun K hK => ?_)
  have hXA := owns_keepM h6.own.h fun g hg hl => bA.block g hl
  refine step_append_lies _ (by rfl) _ _ _ (by rfl) base 101 ti _ 6 48 Tryz.underlying34 hI hz0 hz1 hz2 rfl (by omega) (.slice a3 m.h.length cap3) m.h.length (hexa m.h) (by rfl) hXA ⟨W6.heap.size, 0, none⟩ 1 1 [.int .i64 1, .int .i64 m.n, .int .i64 0, .int .i64 0, .int .i64 0, .int .i64 (m.c + 1)] (by rfl) (by rfl) (newsM W6.drew _ _) (by intro u hu; simp at hu; rcases hu with rfl | rfl | rfl | rfl | rfl | rfl <;> rfl) (by omega) (by unfold maxLen; omega) (by omega) (by simp; omega) (W6.heap.size + 1) (by simp) ?_
  intro gg cap5 w5 hown5 hgrow5 hat5 hlt5
  have hnB := h6.apart 1 (by omega)
  have k5 : ∀ (o : Nat) (u : Value), W6.cell? ⟨B, o, none⟩ = some u → w5.cell? ⟨B, o, none⟩ = some u := fun o u hu => cell_same (hgrow5.block B (Nat.lt_of_lt_of_le h6.box.lt (by have := bA.size; exact this)) (fun e => hnB e.symm)) (cell_stays bA hu)
  refine hK.out _ _ ⟨k5 _ _ c1, k5 _ _ c4⟩ (fun hHeld2 => ?_)
  clear hK K hHeld1
  (try simp only [Act.put, List.setIfInBounds_toArray, List.set_cons_zero, List.set_cons_succ])
  refine takeL (i := 13) (v := ?_) rfl (by kernel_rfl) (by kernel_rfl) (by kernel_rfl) (fun _ _ _ h => h) rfl (by assumption) ?_ ?_
  rotate_left
  · (intro wS hSw; (try dsimp only at hSw); go_simp; try with_reducible rfl)
  (try simp only [Act.put, List.setIfInBounds_toArray, List.set_cons_zero, List.set_cons_succ])
  refine takeL (i := 14) (v := ?_) rfl (by kernel_rfl) (by kernel_rfl) (by kernel_rfl) (fun _ _ _ h => h) rfl (by assumption) ?_ ?_
  rotate_left
  · (intro wS hSw; (try dsimp only at hSw); go_simp; try with_reducible rfl)
  (try simp only [Act.put, List.setIfInBounds_toArray, List.set_cons_zero, List.set_cons_succ])
  have hB5 := h6.box.of_block (show w5.heap[B]? = W6.heap[B]? from (hgrow5.block B (Nat.lt_of_lt_of_le h6.box.lt (by have := bA.size; exact this)) (fun e => hnB e.symm)).trans (bA.block B h6.box.lt))
  have q4 := hB5.cell (show 4 < 5 by omega)
  have qf := hB5.frozen 4
  obtain ⟨P7, bP7⟩ := h6.pushEv (x := ⟨1, m.n, 0, 0, 0, m.c + 1⟩) bA hgrow5 hown5 (by rcases hat5 with e | e; exact .inl e; exact .inr (by omega))
  refine wpAnyH_done (by kernel_rfl) ?_ _
  refine lastL (n := 15) rfl rfl ?_
  go_simp
  have b7 := b6.trans bP7
  clear hHeld2 q4 qf hB5 k5 hnB hlt5 hat5 hgrow5 hown5 hXA bA bD hbt hI hz0 hz1 hz2 c1 c4 h6 b6
  go_wp2
  go_ret2
  exact ⟨b7, .inl ⟨HR.out, rfl, _, _, _, P7⟩⟩
end Go.Proofs.YtmecbppblbmchaaGreatDoor
