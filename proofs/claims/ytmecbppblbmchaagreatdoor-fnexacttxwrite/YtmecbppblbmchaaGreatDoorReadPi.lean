import Derived.Test.YtmecbppblbmchaaGreatDoorM1
import Derived.Test.YtmecbppblbmchaaGreatDoorU3
import Derived.Test.YtmecbppblbmchaaGreatDoorM6
import Derived.Test.YtmecbppblbmchaaGreatDoorRead
import Derived.Test.YtmecbppblbmchaaGreatDoorAppSeq
/- The program's copyMgr once more: the rows of each transaction have just the room that they need. -/
namespace Go.Proofs.YtmecbppblbmchaaGreatDoor
open Go.ChangeShapes Go.WideShapes Go.ChangeAt Go.RowKit Go.Sort
set_option linter.unusedVariables false
set_option maxRecDepth 100000
attribute [local go_sem ↓] Go.wp_at_zero Go.wp_at_succ

set_option maxHeartbeats 4000000 in
theorem copyMgr_full (vs vt ve : Value) (m : Md) (w : World) {lo hi : Nat} (h : MAt lo hi w vs vt ve m) (hn : SmallM m) :
    Calls Tryz.prog 33 #[.agg #[vs, .int .i64 m.c, .int .i64 m.n, vt, ve]] w fun e w' => ∃ B s0 s1 vs' vt' ve' wv, e = .returned (.pointer (some ⟨B, 0, none⟩)) ∧ PtrM w.heap.size w' B s0 s1 vs' vt' ve' m wv ∧ (∀ j, j < m.x.length → ∃ g, wv j = .slice (some ⟨g, 0, none⟩) (tAt m.x j).w.length (tAt m.x j).w.length) ∧ Below w.heap.size w w' := by
  obtain ⟨a1, cap1, hv1⟩ : ∃ a cap, vs = .slice a m.s.length cap := by obtain ⟨a, cap, h1, _⟩ := h.s; exact ⟨a, cap, h1⟩
  obtain ⟨a2, cap2, hv2⟩ : ∃ a cap, vt = .slice a m.x.length cap := by obtain ⟨a, cap, h1, _⟩ := h.x; exact ⟨a, cap, h1⟩
  obtain ⟨a3, cap3, hv3⟩ : ∃ a cap, ve = .slice a m.h.length cap := by obtain ⟨a, cap, h1, _⟩ := h.h; exact ⟨a, cap, h1⟩
  subst hv1 hv2 hv3
  obtain ⟨A, hcA, hAl⟩ := txs_open h.x
  have hxl := hn.x
  have bx : Below w.heap.size w (w.alloc (Obj.cells #[Value.slice a1 m.s.length cap1, .int .i64 m.c, .int .i64 m.n, Value.slice a2 m.x.length cap2, Value.slice a3 m.h.length cap3] 36)) := (Below.refl _ _).alloc (Nat.le_refl _) _
  have x0 : (w.alloc (Obj.cells #[Value.slice a1 m.s.length cap1, .int .i64 m.c, .int .i64 m.n, Value.slice a2 m.x.length cap2, Value.slice a3 m.h.length cap3] 36)).cell? ⟨w.heap.size, 0, none⟩ = some (.slice a1 m.s.length cap1) := by simp [go_sem]
  have x1 : (w.alloc (Obj.cells #[Value.slice a1 m.s.length cap1, .int .i64 m.c, .int .i64 m.n, Value.slice a2 m.x.length cap2, Value.slice a3 m.h.length cap3] 36)).cell? ⟨w.heap.size, 1, none⟩ = some (.int .i64 m.c) := by simp [go_sem]
  have x2 : (w.alloc (Obj.cells #[Value.slice a1 m.s.length cap1, .int .i64 m.c, .int .i64 m.n, Value.slice a2 m.x.length cap2, Value.slice a3 m.h.length cap3] 36)).cell? ⟨w.heap.size, 2, none⟩ = some (.int .i64 m.n) := by simp [go_sem]
  have x3 : (w.alloc (Obj.cells #[Value.slice a1 m.s.length cap1, .int .i64 m.c, .int .i64 m.n, Value.slice a2 m.x.length cap2, Value.slice a3 m.h.length cap3] 36)).cell? ⟨w.heap.size, 3, none⟩ = some (.slice a2 m.x.length cap2) := by simp [go_sem]
  have x4 : (w.alloc (Obj.cells #[Value.slice a1 m.s.length cap1, .int .i64 m.c, .int .i64 m.n, Value.slice a2 m.x.length cap2, Value.slice a3 m.h.length cap3] 36)).cell? ⟨w.heap.size, 4, none⟩ = some (.slice a3 m.h.length cap3) := by simp [go_sem]
  go_enter Tryz.func33, Tryz.ntmps33
  go_wp2_with fail
  have z0 : w.heap.size < (w.alloc (Obj.cells #[Value.slice a1 m.s.length cap1, .int .i64 m.c, .int .i64 m.n, Value.slice a2 m.x.length cap2, Value.slice a3 m.h.length cap3] 36)).heap.size := by simp
  generalize w.alloc (Obj.cells #[Value.slice a1 m.s.length cap1, .int .i64 m.c, .int .i64 m.n, Value.slice a2 m.x.length cap2, Value.slice a3 m.h.length cap3] 36) = W at *
  have TA : ∀ x, Below W.heap.size W x → Below w.heap.size w x ∧ x.cell? ⟨w.heap.size, 0, none⟩ = some (.slice a1 m.s.length cap1) ∧ x.cell? ⟨w.heap.size, 1, none⟩ = some (.int .i64 m.c) ∧ x.cell? ⟨w.heap.size, 2, none⟩ = some (.int .i64 m.n) ∧ x.cell? ⟨w.heap.size, 3, none⟩ = some (.slice a2 m.x.length cap2) ∧ x.cell? ⟨w.heap.size, 4, none⟩ = some (.slice a3 m.h.length cap3) := fun x hx => ⟨bx.trans (hx.mono bx.size), cell_stays hx x0, cell_stays hx x1, cell_stays hx x2, cell_stays hx x3, cell_stays hx x4⟩
  refine region_last (fun x => Below w.heap.size w x ∧ x.cell? ⟨w.heap.size, 0, none⟩ = some (.slice a1 m.s.length cap1) ∧ x.cell? ⟨w.heap.size, 1, none⟩ = some (.int .i64 m.c) ∧ x.cell? ⟨w.heap.size, 2, none⟩ = some (.int .i64 m.n) ∧ x.cell? ⟨w.heap.size, 3, none⟩ = some (.slice a2 m.x.length cap2) ∧ x.cell? ⟨w.heap.size, 4, none⟩ = some (.slice a3 m.h.length cap3)) (by kernel_rfl) (by kernel_rfl) (by kernel_rfl) (TA _ (Below.refl _ _).drew) (fun hHeld0 => ?_)
  simp only [List.dropLast, List.length_cons, List.length_nil, Nat.reduceAdd]
  refine takeL (i := 0) (v := ?_) rfl (by kernel_rfl) (by kernel_rfl) (by kernel_rfl) (fun _ _ _ h => h) rfl (by assumption) ?_ ?_
  rotate_left
  · (intro wS hSw; (try dsimp only at hSw); go_simp; try with_reducible rfl)
  (try simp only [Act.put, List.setIfInBounds_toArray, List.set_cons_zero, List.set_cons_succ])
  refine takeL (i := 1) (v := ?_) rfl (by kernel_rfl) (by kernel_rfl) (by kernel_rfl) (fun _ _ _ h => h) rfl (by assumption) ?_ ?_
  rotate_left
  · (intro wS hSw; (try dsimp only at hSw); go_simp; try with_reducible rfl)
  (try simp only [Act.put, List.setIfInBounds_toArray, List.set_cons_zero, List.set_cons_succ])
  refine takeL (i := 3) (v := ?_) rfl (by kernel_rfl) (by kernel_rfl) (by kernel_rfl) (fun _ _ _ h => h) rfl (by assumption) ?_ ?_
  rotate_left
  · (intro wS hSw; (try dsimp only at hSw); go_simp; try with_reducible rfl)
  (try simp only [Act.put, List.setIfInBounds_toArray, List.set_cons_zero, List.set_cons_succ])
  refine takeL (i := 4) (v := ?_) rfl (by kernel_rfl) (by kernel_rfl) (by kernel_rfl) (fun _ _ _ h => h) rfl (by assumption) ?_ ?_
  rotate_left
  · (intro wS hSw; (try dsimp only at hSw); go_simp; try with_reducible rfl)
  (try simp only [Act.put, List.setIfInBounds_toArray, List.set_cons_zero, List.set_cons_succ])
  refine takeL (i := 5) (v := ?_) rfl (by kernel_rfl) (by kernel_rfl) (by kernel_rfl) (fun _ _ _ h => h) rfl (by assumption) ?_ ?_
  rotate_left
  · (intro wS hSw; (try dsimp only at hSw); go_simp; try with_reducible rfl)
  (try simp only [Act.put, List.setIfInBounds_toArray, List.set_cons_zero, List.set_cons_succ])
  refine takeL (i := 6) (v := ?_) rfl (by kernel_rfl) (by kernel_rfl) (by kernel_rfl) (fun _ _ _ h => h) rfl (by assumption) ?_ ?_
  rotate_left
  · (intro wS hSw; (try dsimp only at hSw); go_simp; try with_reducible rfl)
  (try simp only [Act.put, List.setIfInBounds_toArray, List.set_cons_zero, List.set_cons_succ])
  refine takeL (i := 7) (v := ?_) rfl (by kernel_rfl) (by kernel_rfl) (by kernel_rfl) (fun _ _ _ h => h) rfl (by assumption) ?_ ?_
  rotate_left
  · (intro wS hSw; (try dsimp only at hSw); go_simp; try with_reducible rfl)
  (try simp only [Act.put, List.setIfInBounds_toArray, List.set_cons_zero, List.set_cons_succ])
  refine takeL (i := 8) (v := ?_) rfl (by kernel_rfl) (by kernel_rfl) (by kernel_rfl) (fun _ _ _ h => h) rfl (by assumption) ?_ ?_
  rotate_left
  · (intro wS hSw; (try dsimp only at hSw); go_simp; try with_reducible rfl)
  (try simp only [Act.put, List.setIfInBounds_toArray, List.set_cons_zero, List.set_cons_succ])
  refine takeL (i := 10) (v := ?_) rfl (by kernel_rfl) (by kernel_rfl) (by kernel_rfl) (fun _ _ _ h => h) rfl (by assumption) ?_ ?_
  rotate_left
  · (intro wS hSw; (try dsimp only at hSw); go_simp; try with_reducible rfl)
  (try simp only [Act.put, List.setIfInBounds_toArray, List.set_cons_zero, List.set_cons_succ])
  refine takeL (i := 11) (v := ?_) rfl (by kernel_rfl) (by kernel_rfl) (by kernel_rfl) (fun _ _ _ h => h) rfl (by assumption) ?_ ?_
  rotate_left
  · (intro wS hSw; (try dsimp only at hSw); go_simp; try with_reducible rfl)
  (try simp only [Act.put, List.setIfInBounds_toArray, List.set_cons_zero, List.set_cons_succ])
  refine stepL (i := 2) rfl (by kernel_rfl) (fun K hK => ?_)
  rw [if_pos (by rfl)]
  go_simp
  refine (copyStore_own _ m.s _ (h.s.stays (TA _ (Below.refl _ _).drew).1) hn.s).mono ?_
  rintro e w1 ⟨sb, Bs, rfl, ho1, hb1⟩
  have t1 : Below W.heap.size W w1 := (Below.refl _ _).drew.trans hb1
  refine hK.out _ _ (TA _ t1) (fun hHeld1 => ?_)
  clear hK K hHeld0
  (try simp only [Act.put, List.setIfInBounds_toArray, List.set_cons_zero, List.set_cons_succ])
  refine stepL (i := 9) rfl (by kernel_rfl) (fun K hK => ?_)
  rw [if_pos (by rfl)]
  go_simp
  refine (txs_new (A := A) (hcA.stays (TA _ t1).1) hn.x).mono ?_
  rintro e w2 ⟨rfl, ho2, hb2⟩
  have t2 : Below W.heap.size W w2 := t1.trans (hb2.mono t1.size)
  refine hK.out _ _ (TA _ t2) (fun hHeld2 => ?_)
  clear hK K hHeld1
  (try simp only [Act.put, List.setIfInBounds_toArray, List.set_cons_zero, List.set_cons_succ])
  refine stepL (i := 12) rfl (by kernel_rfl) (fun K hK => ?_)
  rw [if_pos (by rfl)]
  go_simp
  refine (evs_new (h.h.stays (TA _ t2).1) hn.h).mono ?_
  rintro e w3 ⟨rfl, ho3, hb3⟩
  have t3 : Below W.heap.size W w3 := t2.trans (hb3.mono t2.size)
  refine hK.out _ _ (TA _ t3) (fun hHeld3 => ?_)
  clear hK K hHeld2
  (try simp only [Act.put, List.setIfInBounds_toArray, List.set_cons_zero, List.set_cons_succ])
  have hbm := build_mgr (some ⟨sb, 0, none⟩) (some ⟨w1.heap.size, 0, none⟩) (some ⟨w2.heap.size, 0, none⟩) m.s.length m.s.length m.x.length m.x.length m.h.length m.h.length m.c m.n
  refine takeL (i := 13) (v := ?_) rfl (by kernel_rfl) (by kernel_rfl) (by kernel_rfl) (fun _ _ _ h => h) rfl (by assumption) ?_ ?_
  rotate_left
  · (intro wS hSw; (try dsimp only at hSw); go_simp; try with_reducible rfl)
  (try simp only [Act.put, List.setIfInBounds_toArray, List.set_cons_zero, List.set_cons_succ])
  refine stepL (i := 14) rfl (by kernel_rfl) (fun K hK => ?_)
  rw [if_pos (by rfl)]
  go_simp
  have bN := below_alM w3 (Obj.cells #[Value.slice (some ⟨sb, 0, none⟩) m.s.length m.s.length, .int .i64 m.c, .int .i64 m.n, Value.slice (some ⟨w1.heap.size, 0, none⟩) m.x.length m.x.length, Value.slice (some ⟨w2.heap.size, 0, none⟩) m.h.length m.h.length] 36)
  have t4 : Below W.heap.size W _ := t3.trans (bN.mono t3.size)
  refine hK.out _ _ (TA _ t4) (fun hHeld4 => ?_)
  clear hK K hHeld3
  (try simp only [Act.put, List.setIfInBounds_toArray, List.set_cons_zero, List.set_cons_succ])
  refine wpAnyH_done (by kernel_rfl) ?_ _
  refine lastL (n := 15) rfl rfl ?_
  go_simp
  clear hHeld4 hbm
  have z1 := hb1.size
  have z2 := hb2.size
  have z3 := hb3.size
  have zo2 := (owns_ltM ho2 rfl).2
  have zo3 := (owns_ltM ho3 rfl).2
  obtain ⟨q0, q1, q2, q3, q4, q5⟩ := TA _ t4
  obtain ⟨W4, hW4⟩ : ∃ x, x = w3.alloc (Obj.cells #[Value.slice (some ⟨sb, 0, none⟩) m.s.length m.s.length, .int .i64 m.c, .int .i64 m.n, Value.slice (some ⟨w1.heap.size, 0, none⟩) m.x.length m.x.length, Value.slice (some ⟨w2.heap.size, 0, none⟩) m.h.length m.h.length] 36) := ⟨_, rfl⟩
  have hbox : RowOf W4 w3.heap.size 36 5 (bxf (.slice (some ⟨sb, 0, none⟩) m.s.length m.s.length) m.c m.n (.slice (some ⟨w1.heap.size, 0, none⟩) m.x.length m.x.length) (.slice (some ⟨w2.heap.size, 0, none⟩) m.h.length m.h.length)) := by
    rw [hW4]
    refine ⟨_, Deep.blk_alloc_new _ _, by simp, fun j hj => ?_⟩
    match j, hj with
    | 0, _ => rfl
    | 1, _ => rfl
    | 2, _ => rfl
    | 3, _ => rfl
    | 4, _ => rfl
  have hzW4 : W4.heap.size = w3.heap.size + 1 := by rw [hW4]; simp
  rw [← hW4] at q0 q1 q2 q3 q4 q5 bN t4 ⊢
  clear hW4 x0 x1 x2 x3 x4 TA t4
  have hS : OwnT W.heap.size w1.heap.size W4 (.slice (some ⟨sb, 0, none⟩) m.s.length m.s.length) m.s := by
    have b13 : Below w1.heap.size w1 W4 := hb2.trans ((hb3.trans (bN.mono hb3.size)).mono hb2.size)
    have := ho1.stays b13
    exact .inr ⟨sb, Bs, _, rfl, this⟩
  have hX : W4.ownsRow w1.heap.size 97 3 (.slice (some ⟨w1.heap.size, 0, none⟩) m.x.length m.x.length) m.x.length (txf m.x A) := owns_keepM ho2 fun g hg hl => by
    have b23 : Below w2.heap.size w2 W4 := hb3.trans (bN.mono hb3.size)
    exact b23.block g hl
  have hH : W4.ownsRow w2.heap.size 101 6 (.slice (some ⟨w2.heap.size, 0, none⟩) m.h.length m.h.length) m.h.length (hexa m.h) := owns_keepM ho3 fun g hg hl => bN.block g hl
  clear ho1 ho2 ho3 hb1 hb2 hb3 t1 t2 t3 bN
  have z1 : W.heap.size ≤ w1.heap.size := z1
  generalize w1.heap.size = G2 at *
  generalize w2.heap.size = G3 at *
  generalize w3.heap.size = B at *
  generalize W.heap.size = S0 at *
  go_wp2
  go_loopw [24] (fun t wr => ∃ (k : Nat) (wv : Nat → Value), k ≤ m.x.length ∧ t = .int .i64 (k : Int) ∧ Below w.heap.size w wr ∧ B < wr.heap.size ∧ wr.cell? ⟨w.heap.size, 3, none⟩ = some (.slice a2 m.x.length cap2) ∧
      RowOf wr B 36 5 (bxf (.slice (some ⟨sb, 0, none⟩) m.s.length m.s.length) m.c m.n (.slice (some ⟨G2, 0, none⟩) m.x.length m.x.length) (.slice (some ⟨G3, 0, none⟩) m.h.length m.h.length)) ∧
      OwnT S0 G2 wr (.slice (some ⟨sb, 0, none⟩) m.s.length m.s.length) m.s ∧ wr.ownsRow G2 97 3 (.slice (some ⟨G2, 0, none⟩) m.x.length m.x.length) m.x.length (txm m.x A wv k) ∧
      wr.ownsRow G3 101 6 (.slice (some ⟨G3, 0, none⟩) m.h.length m.h.length) m.h.length (hexa m.h) ∧
      (∀ j, j < k → wr.ownsRow (B + 1) 111 3 (wv j) (tAt m.x j).w.length (flat (tAt m.x j).w)) ∧
      (∀ i j, i < k → j < k → i ≠ j → ∀ g, (wv i).ownBlock = some g → (wv j).ownBlock ≠ some g) ∧ (∀ j, j < k → ∃ g, wv j = .slice (some ⟨g, 0, none⟩) (tAt m.x j).w.length (tAt m.x j).w.length)) (fun t _ => m.x.length - (intOf t).toNat)
  case atStart => exact ⟨0, fun _ => .nilIface, Nat.zero_le _, rfl, q0, by omega, q4, hbox, hS, by rw [txm_zero]; exact hX, hH, fun j hj => absurd hj (Nat.not_lt_zero _), fun i j hi => absurd hi (Nat.not_lt_zero _), fun j hj => absurd hj (Nat.not_lt_zero _)⟩
  case round =>
    rename World => wo
    clear q0 q1 q2 q3 q4 q5 hbox hS hX hH hzW4
    obtain ⟨k, wv, hk, rfl, hb, hBw, p3, hbox, hS, hX, hH, hWs, hap, hcap⟩ := hrel
    by_cases hlt : k < m.x.length
    · obtain ⟨hvk, hcellk⟩ := hAl k hlt
      obtain ⟨b, off, rfl, _⟩ := hcA (by omega)
      obtain ⟨c0, c1, c2⟩ := hcellk b off rfl
      replace c0 := cell_stays hb c0
      replace c1 := cell_stays hb c1
      replace c2 := cell_stays hb c2
      have hn2 := hn.w k hlt
      have i0 : (0 : Int) ≤ (k : Int) := by omega
      have i1 : (k : Int) < (m.x.length : Int) := by omega
      have bB := below_alM wo (Obj.cells #[.int .i64 (tAt m.x k).i, .int .i64 (tAt m.x k).s, Value.slice (A k).1 (tAt m.x k).w.length (A k).2] 97)
      have hvB := (hvk.stays hb).stays bB
      have y2 : (wo.alloc (Obj.cells #[.int .i64 (tAt m.x k).i, .int .i64 (tAt m.x k).s, Value.slice (A k).1 (tAt m.x k).w.length (A k).2] 97)).cell? ⟨wo.heap.size, 2, none⟩ = some (Value.slice (A k).1 (tAt m.x k).w.length (A k).2) := by simp [go_sem]
      have y3 := cell_stays bB (hbox.cell (show 3 < 5 by omega))
      have p3' := cell_stays bB p3
      have hwz : (wo.alloc (Obj.cells #[.int .i64 (tAt m.x k).i, .int .i64 (tAt m.x k).s, Value.slice (A k).1 (tAt m.x k).w.length (A k).2] 97)).heap.size = wo.heap.size + 1 := by simp
      have hbox1 := hbox.of_block (bB.block _ hbox.lt)
      have hS1 := hS.stays bB
      have hX1 := owns_keepM hX fun g hg hl => bB.block g hl
      have hH1 := owns_keepM hH fun g hg hl => bB.block g hl
      have hW1 := fun j (hj : j < k) => owns_keepM (hWs j hj) fun g hg hl => bB.block g hl
      have bb := hb.trans (bB.mono hb.size)
      simp only [bxf] at y3
      clear hcellk hbox hS hX hH
      change Hid _ at hcap
      go_wp2_with fail
      generalize wo.alloc (Obj.cells #[.int .i64 (tAt m.x k).i, .int .i64 (tAt m.x k).s, Value.slice (A k).1 (tAt m.x k).w.length (A k).2] 97) = W1 at *
      have TA : ∀ x, Below W1.heap.size W1 x → x.cell? ⟨B, 3, none⟩ = some (.slice (some ⟨G2, 0, none⟩) m.x.length m.x.length) ∧ x.cell? ⟨wo.heap.size, 2, none⟩ = some (Value.slice (A k).1 (tAt m.x k).w.length (A k).2) := fun x hx => ⟨cell_stays hx y3, cell_stays hx y2⟩
      refine region_last (fun x => x.cell? ⟨B, 3, none⟩ = some (.slice (some ⟨G2, 0, none⟩) m.x.length m.x.length) ∧ x.cell? ⟨wo.heap.size, 2, none⟩ = some (Value.slice (A k).1 (tAt m.x k).w.length (A k).2)) (by kernel_rfl) (by kernel_rfl) (by kernel_rfl) (TA _ (Below.refl _ _).drew) (fun hHeld0 => ?_)
      simp only [List.dropLast, List.length_cons, List.length_nil, Nat.reduceAdd]
      refine takeL (i := 0) (v := ?_) rfl (by kernel_rfl) (by kernel_rfl) (by kernel_rfl) (fun _ _ _ h => h) rfl (by assumption) ?_ ?_
      rotate_left
      · (intro wS hSw; (try dsimp only at hSw); go_simp; try with_reducible rfl)
      (try simp only [Act.put, List.setIfInBounds_toArray, List.set_cons_zero, List.set_cons_succ])
      refine takeL (i := 1) (v := ?_) rfl (by kernel_rfl) (by kernel_rfl) (by kernel_rfl) (fun _ _ _ h => h) rfl (by assumption) ?_ ?_
      rotate_left
      · (intro wS hSw; (try dsimp only at hSw); go_simp; try with_reducible rfl)
      (try simp only [Act.put, List.setIfInBounds_toArray, List.set_cons_zero, List.set_cons_succ])
      refine takeL (i := 2) (v := ?_) rfl (by kernel_rfl) (by kernel_rfl) (by kernel_rfl) (fun _ _ _ h => h) rfl (by assumption) ?_ ?_
      rotate_left
      · (intro wS hSw; (try dsimp only at hSw); go_simp; try with_reducible rfl)
      (try simp only [Act.put, List.setIfInBounds_toArray, List.set_cons_zero, List.set_cons_succ])
      refine takeL (i := 3) (v := ?_) rfl (by kernel_rfl) (by kernel_rfl) (by kernel_rfl) (fun _ _ _ h => h) rfl (by assumption) ?_ ?_
      rotate_left
      · (intro wS hSw; (try dsimp only at hSw); go_simp; try with_reducible rfl)
      (try simp only [Act.put, List.setIfInBounds_toArray, List.set_cons_zero, List.set_cons_succ])
      refine takeL (i := 4) (v := ?_) rfl (by kernel_rfl) (by kernel_rfl) (by kernel_rfl) (fun _ _ _ h => h) rfl (by assumption) ?_ ?_
      rotate_left
      · (intro wS hSw; (try dsimp only at hSw); go_simp; try with_reducible rfl)
      (try simp only [Act.put, List.setIfInBounds_toArray, List.set_cons_zero, List.set_cons_succ])
      refine takeL (i := 5) (v := ?_) rfl (by kernel_rfl) (by kernel_rfl) (by kernel_rfl) (fun _ _ _ h => h) rfl (by assumption) ?_ ?_
      rotate_left
      · (intro wS hSw; (try dsimp only at hSw); go_simp; try with_reducible rfl)
      (try simp only [Act.put, List.setIfInBounds_toArray, List.set_cons_zero, List.set_cons_succ])
      refine takeL (i := 6) (v := ?_) rfl (by kernel_rfl) (by kernel_rfl) (by kernel_rfl) (fun _ _ _ h => h) rfl (by assumption) ?_ ?_
      rotate_left
      · (intro wS hSw; (try dsimp only at hSw); go_simp; try with_reducible rfl)
      (try simp only [Act.put, List.setIfInBounds_toArray, List.set_cons_zero, List.set_cons_succ])
      refine stepL (i := 7) rfl (by kernel_rfl) (fun K hK => ?_)
      rw [if_pos (by rfl)]
      go_simp
      refine (rows_new (hvB.stays (Below.refl _ _).drew) hn2).mono ?_
      rintro e w2 ⟨rfl, ho2, hb2⟩
      have t2 : Below W1.heap.size W1 w2 := (Below.refl _ _).drew.trans hb2
      refine hK.out _ _ (TA _ t2) (fun hHeld1 => ?_)
      clear hK K hHeld0
      (try simp only [Act.put, List.setIfInBounds_toArray, List.set_cons_zero, List.set_cons_succ])
      refine takeL (i := 8) (v := ?_) rfl (by kernel_rfl) (by kernel_rfl) (by kernel_rfl) (fun _ _ _ h => h) rfl (by assumption) ?_ ?_
      rotate_left
      · (intro wS hSw; (try dsimp only at hSw); go_simp; try with_reducible rfl)
      (try simp only [Act.put, List.setIfInBounds_toArray, List.set_cons_zero, List.set_cons_succ])
      refine takeL (i := 9) (v := ?_) rfl (by kernel_rfl) (by kernel_rfl) (by kernel_rfl) (fun _ _ _ h => h) rfl (by assumption) ?_ ?_
      rotate_left
      · (intro wS hSw; (try dsimp only at hSw); go_simp; try with_reducible rfl)
      (try simp only [Act.put, List.setIfInBounds_toArray, List.set_cons_zero, List.set_cons_succ])
      have zW1 : W1.heap.size = wo.heap.size + 1 := hwz
      have hX2 := owns_keepM hX1 fun g hg hl => t2.block g hl
      obtain ⟨g', eg, _, u2, uf⟩ := owns_cell hX2 (tri_get (fun i => Value.int IntKind.i64 (tAt m.x i).i) (fun i => Value.int IntKind.i64 (tAt m.x i).s) (fun i => if i < k then wv i else .slice (A i).1 (tAt m.x i).w.length (A i).2) m.x.length k hlt).2.2
      injection eg with eg
      injection eg with eg
      subst eg
      refine wpAnyH_done (by kernel_rfl) ?_ _
      refine lastL (n := 10) rfl rfl ?_
      go_simp
      have hX3 := owns_set hX2 (k * 3 + 2) (.slice (some ⟨wo.heap.size + 1, 0, none⟩) (tAt m.x k).w.length (tAt m.x k).w.length) (by omega)
      have hX4 := txm_step m.x A wv hlt (.slice (some ⟨wo.heap.size + 1, 0, none⟩) (tAt m.x k).w.length (tAt m.x k).w.length)
      simp only [txm] at hX3 hX4
      rw [hX4] at hX3
      clear hX1 hX2 hX4 u2 uf TA y2 y3 hvB hvk c0 c1 c2 hHeld1
      have z21 := t2.size
      have hkeep : ∀ q, q ≠ G2 → q < W1.heap.size → (w2.setCell ⟨G2, k * 3 + 2, none⟩ (.slice (some ⟨wo.heap.size + 1, 0, none⟩) (tAt m.x k).w.length (tAt m.x k).w.length)).heap[q]? = W1.heap[q]? := fun q h1 h2 => (Below.heap_setCell _ _ _ _ h1).trans (t2.block q h2)
      have ho2 : w2.ownsRow (wo.heap.size + 1) 111 3 (.slice (some ⟨wo.heap.size + 1, 0, none⟩) (tAt m.x k).w.length (tAt m.x k).w.length) (tAt m.x k).w.length (flat (tAt m.x k).w) := by rw [← zW1]; exact ho2
      have hnew := owns_keepM (w' := w2.setCell ⟨G2, k * 3 + 2, none⟩ (.slice (some ⟨wo.heap.size + 1, 0, none⟩) (tAt m.x k).w.length (tAt m.x k).w.length)) ho2 fun g hg hl => Below.heap_setCell _ _ _ _ (by
        have : g = wo.heap.size + 1 := by simpa [Value.ownBlock] using hg.symm
        show g ≠ G2
        omega)
      have bb2 := (bb.trans (t2.mono bb.size)).setCell (p := ⟨G2, k * 3 + 2, none⟩) (by show w.heap.size ≤ G2; omega) (.slice (some ⟨wo.heap.size + 1, 0, none⟩) (tAt m.x k).w.length (tAt m.x k).w.length)
      have hbox2 := hbox1.of_block (hkeep _ (by omega) hbox1.lt)
      have hS2 := hS1.keep fun q _ h2 h3 => hkeep q (by omega) h3
      have hH2 := owns_keepM hH1 fun g hg hl => hkeep g (by have := (owns_ltM hH1 hg).1; omega) hl
      have hW2 := fun j (hj : j < k) => owns_keepM (hW1 j hj) fun g hg hl => hkeep g (by have := (owns_ltM (hW1 j hj) hg).1; omega) hl
      have hp2 := cell_same (hkeep w.heap.size (by omega) (cell_lt p3')) p3'
      have hsz : B < (w2.setCell ⟨G2, k * 3 + 2, none⟩ (.slice (some ⟨wo.heap.size + 1, 0, none⟩) (tAt m.x k).w.length (tAt m.x k).w.length)).heap.size := by rw [size_setCell]; omega
      have hwb : ∀ j, j < k → ∀ g, (wv j).ownBlock = some g → g < wo.heap.size := fun j hj g hg => (owns_ltM (hWs j hj) hg).2
      clear hkeep hbox1 hS1 hH1 hW1 p3' t2 hb2 ho2 bb hWs
      go_wp2
      go_roundw
      case rel =>
        refine ⟨k + 1, _, by omega, by go_num, bb2, hsz, hp2, hbox2, hS2, hX3, hH2, fun j hj => ?_, fun i j hi hj hij g hg => ?_, fun j hj => ?_⟩
        · by_cases e : j = k
          · subst e
            simp only [if_true]
            exact World.ownsRow.mono hnew (by omega)
          · simp only [if_neg e]
            exact hW2 j (by omega)
        · by_cases e : i = k
          · have ej : j ≠ k := fun h => hij (e.trans h.symm)
            simp only [if_pos e] at hg
            simp only [if_neg ej]
            intro hc
            have h1 := hwb j (by omega) g hc
            have h2 : g = wo.heap.size + 1 := by simpa [Value.ownBlock] using hg.symm
            omega
          · simp only [if_neg e] at hg
            by_cases ej : j = k
            · simp only [if_pos ej]
              intro hc
              have h1 := hwb i (by omega) g hg
              have h2 : g = wo.heap.size + 1 := by simpa [Value.ownBlock] using hc.symm
              omega
            · simp only [if_neg ej]
              exact hap i j (by omega) (by omega) hij g hg
        · by_cases e : j = k
          · subst e
            simp only [if_true]
            exact ⟨_, rfl⟩
          · simp only [if_neg e]
            exact hcap.out j (by omega)
      case measure => simp [intOf]; omega
    · obtain rfl : k = m.x.length := by omega
      rw [txm_all] at hX
      go_wp2
      go_ret
      refine ⟨B, S0, G2, _, _, _, wv, rfl, ⟨⟨hS, ⟨by omega, by omega, by omega⟩, ?_, fun i hi => ?_, ?_, ?_, ?_⟩, hbox, by omega, .inr (by omega), ?_⟩, hcap, hb⟩
      · exact World.ownsRow.mono hX (by omega)
      · exact World.ownsRow.mono (hWs i hi) (by omega)
      · exact World.ownsRow.mono hH (by omega)
      · intro a ha g hg
        match a, ha with
        | 0, _ =>
          have h2 : g = G2 := by simpa [mv, Value.ownBlock] using hg.symm
          exact .inr (by omega)
        | 1, _ =>
          have h2 : g = G3 := by simpa [mv, Value.ownBlock] using hg.symm
          exact .inr (by omega)
        | i + 2, hi =>
          have h2 := (owns_ltM (hWs i (by omega)) hg).1
          exact .inr (by omega)
      · intro a b ha hb' hab g hg hg'
        match a, b, ha, hb' with
        | 0, 0, _, _ => exact hab rfl
        | 1, 1, _, _ => exact hab rfl
        | 0, 1, _, _ =>
          have h2 : g = G2 := by simpa [mv, Value.ownBlock] using hg.symm
          have h3 : g = G3 := by simpa [mv, Value.ownBlock] using hg'.symm
          omega
        | 1, 0, _, _ =>
          have h2 : g = G3 := by simpa [mv, Value.ownBlock] using hg.symm
          have h3 : g = G2 := by simpa [mv, Value.ownBlock] using hg'.symm
          omega
        | 0, i + 2, _, hi =>
          have h2 : g = G2 := by simpa [mv, Value.ownBlock] using hg.symm
          have h3 := (owns_ltM (hWs i (by omega)) hg').1
          omega
        | 1, i + 2, _, hi =>
          have h2 : g = G3 := by simpa [mv, Value.ownBlock] using hg.symm
          have h3 := (owns_ltM (hWs i (by omega)) hg').1
          omega
        | i + 2, 0, hi, _ =>
          have h2 : g = G2 := by simpa [mv, Value.ownBlock] using hg'.symm
          have h3 := (owns_ltM (hWs i (by omega)) hg).1
          omega
        | i + 2, 1, hi, _ =>
          have h2 : g = G3 := by simpa [mv, Value.ownBlock] using hg'.symm
          have h3 := (owns_ltM (hWs i (by omega)) hg).1
          omega
        | i + 2, j + 2, hi, hj => exact hap i j (by omega) (by omega) (fun e => hab (by rw [e])) g hg hg'
      · intro a ha hg
        match a, ha with
        | 0, _ =>
          have h2 : B = G2 := by simpa [mv, Value.ownBlock] using hg.symm
          omega
        | 1, _ =>
          have h2 : B = G3 := by simpa [mv, Value.ownBlock] using hg.symm
          omega
        | i + 2, hi =>
          have h2 := (owns_ltM (hWs i (by omega)) hg).1
          omega

end Go.Proofs.YtmecbppblbmchaaGreatDoor

/- The program's TxWrite. -/
namespace Go.Proofs.YtmecbppblbmchaaGreatDoor
open Go.ChangeShapes Go.WideShapes Go.ChangeAt Go.RowKit Go.Sort
set_option linter.unusedVariables false
set_option maxRecDepth 100000
attribute [local go_sem ↓] Go.wp_at_zero Go.wp_at_succ


set_option maxHeartbeats 4000000 in
theorem implTxWrite_any (vs vt ve : Value) (m : Md) (tx t r val : Int) (w : World) {lo hi : Nat} (h : MAt lo hi w vs vt ve m) (hn : SmallM m) (hL : Laid w) :
    Calls Tryz.prog 19 #[.agg #[vs, .int .i64 m.c, .int .i64 m.n, vt, ve], .int .i64 tx, .agg #[.int .i64 t, .int .i64 r], .int .i64 val] w fun e w' => ∃ v x code, e = .returned (.tuple #[v, .int .i64 code]) ∧ AnsM w.heap.size w' v x ∧ RW m x tx t r val code ∧ Below w.heap.size w w' := by
  obtain ⟨a1, cap1, hv1⟩ : ∃ a cap, vs = .slice a m.s.length cap := by obtain ⟨a, cap, h1, _⟩ := h.s; exact ⟨a, cap, h1⟩
  obtain ⟨a2, cap2, hv2⟩ : ∃ a cap, vt = .slice a m.x.length cap := by obtain ⟨a, cap, h1, _⟩ := h.x; exact ⟨a, cap, h1⟩
  obtain ⟨a3, cap3, hv3⟩ : ∃ a cap, ve = .slice a m.h.length cap := by obtain ⟨a, cap, h1, _⟩ := h.h; exact ⟨a, cap, h1⟩
  subst hv1 hv2 hv3
  have b0 : Below w.heap.size w (((w.alloc (Obj.cells #[Value.slice a1 m.s.length cap1, .int .i64 m.c, .int .i64 m.n, Value.slice a2 m.x.length cap2, Value.slice a3 m.h.length cap3] 36)).alloc (Obj.cells #[Value.int IntKind.i64 t, Value.int IntKind.i64 r] 46)).alloc (Obj.cells #[Value.slice none 0 0, .int .i64 0, .int .i64 0, Value.slice none 0 0, Value.slice none 0 0] 36)) := (((Below.refl _ _).alloc (Nat.le_refl _) _).alloc (by simp) _).alloc (by simp; omega) _
  have r0 := zeroBox (w.alloc (Obj.cells #[Value.slice a1 m.s.length cap1, .int .i64 m.c, .int .i64 m.n, Value.slice a2 m.x.length cap2, Value.slice a3 m.h.length cap3] 36)) (Obj.cells #[Value.int IntKind.i64 t, Value.int IntKind.i64 r] 46)
  rw [show (w.alloc (Obj.cells #[Value.slice a1 m.s.length cap1, .int .i64 m.c, .int .i64 m.n, Value.slice a2 m.x.length cap2, Value.slice a3 m.h.length cap3] 36)).heap.size = w.heap.size + 1 by simp] at r0
  have k0 : (((w.alloc (Obj.cells #[Value.slice a1 m.s.length cap1, .int .i64 m.c, .int .i64 m.n, Value.slice a2 m.x.length cap2, Value.slice a3 m.h.length cap3] 36)).alloc (Obj.cells #[Value.int IntKind.i64 t, Value.int IntKind.i64 r] 46)).alloc (Obj.cells #[Value.slice none 0 0, .int .i64 0, .int .i64 0, Value.slice none 0 0, Value.slice none 0 0] 36)).cell? ⟨w.heap.size + 1, 0, none⟩ = some (.int .i64 t) := by simp [go_sem]
  have k1 : (((w.alloc (Obj.cells #[Value.slice a1 m.s.length cap1, .int .i64 m.c, .int .i64 m.n, Value.slice a2 m.x.length cap2, Value.slice a3 m.h.length cap3] 36)).alloc (Obj.cells #[Value.int IntKind.i64 t, Value.int IntKind.i64 r] 46)).alloc (Obj.cells #[Value.slice none 0 0, .int .i64 0, .int .i64 0, Value.slice none 0 0, Value.slice none 0 0] 36)).cell? ⟨w.heap.size + 1, 1, none⟩ = some (.int .i64 r) := by simp [go_sem]
  have hz0 : w.heap.size + 1 + 1 < (((w.alloc (Obj.cells #[Value.slice a1 m.s.length cap1, .int .i64 m.c, .int .i64 m.n, Value.slice a2 m.x.length cap2, Value.slice a3 m.h.length cap3] 36)).alloc (Obj.cells #[Value.int IntKind.i64 t, Value.int IntKind.i64 r] 46)).alloc (Obj.cells #[Value.slice none 0 0, .int .i64 0, .int .i64 0, Value.slice none 0 0, Value.slice none 0 0] 36)).heap.size := by simp
  go_enter Tryz.func19, Tryz.ntmps19
  go_wp2_with fail
  generalize ((w.alloc (Obj.cells #[Value.slice a1 m.s.length cap1, .int .i64 m.c, .int .i64 m.n, Value.slice a2 m.x.length cap2, Value.slice a3 m.h.length cap3] 36)).alloc (Obj.cells #[Value.int IntKind.i64 t, Value.int IntKind.i64 r] 46)).alloc (Obj.cells #[Value.slice none 0 0, .int .i64 0, .int .i64 0, Value.slice none 0 0, Value.slice none 0 0] 36) = W0 at *
  refine Calls.mono (copyMgr_full _ _ _ m _ (h.stays b0) hn) ?_
  rintro e w1 ⟨B, s0, s1, vs1, vt1, ve1, wv1, rfl, P1, hfull, hb1⟩
  have b1 := b0.trans (hb1.mono b0.size)
  have r1 := r0.of_block (hb1.block _ hz0)
  have hz1 := hb1.size
  have k0' := cell_stays hb1 k0
  have k1' := cell_stays hb1 k1
  clear k0 k1
  clear r0 hb1
  go_wp2_with fail
  refine Calls.mono (write_in _ B s0 s1 vs1 vt1 ve1 m wv1 tx t r val _ P1 hn.room hfull) ?_
  rintro e w2 ⟨hb2, x, code, hR, hcase⟩
  have b2 := b1.trans (hb2.mono (by omega))
  have r2 := r1.of_block (hb2.block _ hz0)
  have hz2 := hb2.size
  have L2 := hL.stays b2
  have HB : Hid (RW m x tx t r val code) := hR
  clear r1 b1 hR
  rcases hcase with ⟨rfl, rfl, t0, t1, vs2, vt2, ve2, wv2, P2⟩ | ⟨rfl, rfl⟩
  · go_wp2_with fail
    refine Calls.mono (told_ptr _ B t0 t1 vs2 vt2 ve2 x wv2 _ P2) ?_
    rintro e w3 ⟨rfl, hb3⟩
    have r3 := r2.of_block (hb3.block _ (by omega))
    have O3 := P2.own.stays hb3
    have b3 := b2.trans (hb3.mono b2.size)
    obtain ⟨a2, c2, rfl⟩ := owns_sliceM O3.x
    obtain ⟨a3, c3, rfl⟩ := owns_sliceM O3.h
    obtain ⟨a1, n1, c1, rfl⟩ : ∃ a n c, vs2 = .slice a n c := by
      rcases O3.s with ⟨rfl, _⟩ | ⟨b, Bs, cap, rfl, _⟩
      · exact ⟨_, _, _, rfl⟩
      · exact ⟨_, _, _, rfl⟩
    clear P1 P2 hb3 r2 L2 hL
    have c0 := r3.cell (show 0 < 5 by omega)
    have c1' := r3.cell (show 1 < 5 by omega)
    have c2' := r3.cell (show 2 < 5 by omega)
    have c3' := r3.cell (show 3 < 5 by omega)
    have c4' := r3.cell (show 4 < 5 by omega)
    have f0 := r3.frozen 0
    have f1 := r3.frozen 1
    have f2 := r3.frozen 2
    have f3 := r3.frozen 3
    have f4 := r3.frozen 4
    have hz3 := r3.lt
    go_wp2
    obtain ⟨kz, kk⟩ := boxed_keep0 w3 (w.heap.size + 1 + 1) (.slice a1 n1 c1) (.int .i64 x.c) (.int .i64 x.n) (.slice a2 x.x.length c2) (.slice a3 x.h.length c3)
    have OF := (O3.keep (fun k h1 h2 => kk k (by omega) h2) kz).mono (base' := w.heap.size) (by omega)
    refine bodyPost_ret (v := .tuple #[.agg #[.slice a1 n1 c1, .int .i64 x.c, .int .i64 x.n, .slice a2 x.x.length c2, .slice a3 x.h.length c3], .int .i64 0]) (by simp [results, Tryz.results19, go_sem, c0, c1', c2', c3', c4']) rfl ⟨_, x, _, rfl, ⟨t0, t1, _, _, _, _, rfl, OF⟩, HB.out, ?_⟩
    repeat (first | exact b3 | refine Below.alloc ?_ (by simp only [size_setCell]; omega) _ | refine Below.setCell ?_ (by simp; omega) _)
  · simp only [refE]
    go_wp2_with fail
    refine Calls.mono (told_err _ code _ L2) ?_
    rintro e w3 ⟨rfl, hb3⟩
    have r3 := r2.of_block (hb3.block _ (by omega))
    have b3 := b2.trans (hb3.mono b2.size)
    clear hb3 r2 L2 hL P1
    have c0 := r3.cell (show 0 < 5 by omega)
    have c1' := r3.cell (show 1 < 5 by omega)
    have c2' := r3.cell (show 2 < 5 by omega)
    have c3' := r3.cell (show 3 < 5 by omega)
    have c4' := r3.cell (show 4 < 5 by omega)
    have f0 := r3.frozen 0
    have f1 := r3.frozen 1
    have f2 := r3.frozen 2
    have f3 := r3.frozen 3
    have f4 := r3.frozen 4
    have hz3 := r3.lt
    go_wp2
    obtain ⟨kz, kk⟩ := boxed_keep0 w3 (w.heap.size + 1 + 1) (.slice none 0 0) (.int .i64 0) (.int .i64 0) (.slice none 0 0) (.slice none 0 0)
    have OF := OwnM.none w.heap.size (((((w3.setCell ⟨w.heap.size + 1 + 1, 0, none⟩ (.slice none 0 0)).setCell ⟨w.heap.size + 1 + 1, 1, none⟩ (.int .i64 0)).setCell ⟨w.heap.size + 1 + 1, 2, none⟩ (.int .i64 0)).setCell ⟨w.heap.size + 1 + 1, 3, none⟩ (.slice none 0 0)).setCell ⟨w.heap.size + 1 + 1, 4, none⟩ (.slice none 0 0)) (by have := b3.size; omega)
    refine bodyPost_ret (v := .tuple #[.agg #[.slice none 0 0, .int .i64 0, .int .i64 0, .slice none 0 0, .slice none 0 0], .int .i64 code]) (by simp [results, Tryz.results19, go_sem, c0, c1', c2', c3', c4']) rfl ⟨_, md0, _, rfl, ⟨_, _, _, _, _, _, rfl, OF⟩, HB.out, ?_⟩
    repeat (first | exact b3 | refine Below.alloc ?_ (by simp only [size_setCell]; omega) _ | refine Below.setCell ?_ (by simp; omega) _)
end Go.Proofs.YtmecbppblbmchaaGreatDoor

/- The program's ReadAt answers what the versions say. -/
namespace Go.Proofs.YtmecbppblbmchaaGreatDoor
open Go.ChangeShapes Go.WideShapes Go.ChangeAt Go.RowKit Go.Sort Go.Maps
set_option linter.unusedVariables false
set_option maxRecDepth 100000
attribute [local go_sem ↓] Go.wp_at_zero Go.wp_at_succ

set_option maxHeartbeats 1000000 in
theorem implReadAt_any (v : Value) (l : List Ch) (t r h : Int) (w : World) {lo hi : Nat} (hl : ChainsAt lo hi w v l) (hw : WfCh l) (wt : wf t) (wr : wf r) (hn : l.length ≤ 1048576) :
    Calls Tryz.prog 82 #[.agg #[v], .agg #[.int .i64 t, .int .i64 r], .int .i64 h] w fun e w' => ∃ p : Int × Int, e = .returned (.tuple #[.int .i64 p.1, .int .i64 p.2]) ∧ RAns l t r h p ∧ Below w.heap.size w w' := by
  obtain ⟨a, cap, hv⟩ : ∃ a cap, v = .slice a l.length cap := by obtain ⟨a, cap, h1, _⟩ := hl; exact ⟨a, cap, h1⟩
  subst hv
  have hbx : Below w.heap.size w ((w.alloc (Obj.cells #[Value.slice a l.length cap] 32)).alloc (Obj.cells #[.int .i64 t, .int .i64 r] 46)) := ((Below.refl _ _).alloc (Nat.le_refl _) _).alloc (by simp) _
  go_enter Tryz.func82, Tryz.ntmps82
  go_wp2_with fail
  refine (implStoreOk_any _ l _ (hl.stays hbx)).mono ?_
  rintro e w1 ⟨⟨q, rfl, hq⟩, hb1⟩
  have b1 := hbx.trans (hb1.mono hbx.size)
  have p0 : w1.cell? ⟨w.heap.size, 0, none⟩ = some (.slice a l.length cap) := cell_stays hb1 (by simp [go_sem])
  have p1 : w1.cell? ⟨w.heap.size + 1, 0, none⟩ = some (.int .i64 t) := cell_stays hb1 (by simp [go_sem])
  have p2 : w1.cell? ⟨w.heap.size + 1, 1, none⟩ = some (.int .i64 r) := cell_stays hb1 (by simp [go_sem])
  clear hb1 hbx
  by_cases hs : storeOk l
  · obtain rfl := hq.2 hs
    clear hq
    by_cases hh : hourB h = true
    · by_cases ht : tabB t = true
      · go_wp2_with (first | (go_at_call 106; refine (isHour_any _ _).mono ?_; rintro e w2 ⟨rfl, rfl⟩) | (go_at_call 118; refine (isTable_any _ _).mono ?_; rintro e w2 ⟨rfl, rfl⟩))
        have z2 : w.heap.size + 1 < w2.heap.size := cell_lt p1
        have hS2 : Boxes w a l.length cap t r w2 := ⟨b1, z2, p0, p1, p2⟩
        go_region_held3 (fun x => Below w.heap.size w x ∧ w.heap.size + 1 < x.heap.size ∧ x.cell? ⟨w.heap.size, 0, none⟩ = some (.slice a l.length cap) ∧ x.cell? ⟨w.heap.size + 1, 0, none⟩ = some (.int .i64 t) ∧ x.cell? ⟨w.heap.size + 1, 1, none⟩ = some (.int .i64 r))
          (first | assumption | exact hS6 | exact hS5 | exact hS5.kept (below_alloc _ _) | exact (hS2.kept ((Below.refl _ _).drew.alloc (Nat.le_refl _) _)) | exact hS6.kept (below_alloc _ _) | exact hS6.set hz5 _ _ | exact hS6.set z2 _ _ | exact hS2.kept (Below.refl _ _).drew)
          (first | (go_at_call 120; refine (chainsByKey_any _ l _ (hl.stays ?_) hw hn).mono ?_; (first | exact b1.drew | exact b1.drew.alloc b1.size _); rintro e w5 ⟨bm, D, f, rfl, hown, hat, hby, hbm, hb5⟩; have hlk := look_vers hown hat wt wr; have hlkA := fun o => look_vers (hown.alloc o) hat wt wr; obtain ⟨L, la, lc, hL, hvL, hrd⟩ := byKey_read hs hby t r; rw [hL] at hlk; simp only [hL] at hlkA; have hvL5 := hvL.stays hb5; have hz5 : w.heap.size + 1 < w5.heap.size := by { have := hb5.size; simp at this; omega }; (try have hz25 : w2.heap.size < w5.heap.size := lt_of_alloc (w := w2.drew) hb5.size); obtain ⟨hc5, hf5⟩ := bcell hb5; have hS5 : Boxes w a l.length cap t r w5 := by { first | exact (hS2.kept (Below.refl _ _).drew).kept hb5 | exact (hS2.kept ((Below.refl _ _).drew.alloc (Nat.le_refl _) _)).kept hb5 }) | (go_at_call 119; refine (verAt_any (lo := lo) (hi := hi) _ L h _ ?_).mono ?_; (first | exact hvL5 | exact hvL5.stays (below_alloc _ _)); rintro e w6 ⟨k, rfl, hk, hb5⟩; have hS6 : Boxes w a l.length cap t r w6 := by { first | exact hS5.kept hb5 | exact (hS5.kept (below_alloc _ _)).kept hb5 }; obtain ⟨hc6, hf6⟩ := bcell hb5))
        all_goals
          rename_i hH
          go_wp2
          go_region
          all_goals
            go_wp2
            go_ret2
            exact ⟨((rdV L k).2, (rdV L k).1), rfl, .inr ⟨⟨hs, hh, ht⟩, _, hrd h k hk, rfl⟩, hH.1.drew⟩
      · have ht' : tabB t = false := by simpa using ht
        go_wp2_with (first | (go_at_call 106; refine (isHour_any _ _).mono ?_; rintro e w2 ⟨rfl, rfl⟩) | (go_at_call 118; refine (isTable_any _ _).mono ?_; rintro e w2 ⟨rfl, rfl⟩))
        go_ret2
        exact ⟨(0, -1), rfl, .inl ⟨fun h => ht h.2.2, rfl⟩, b1⟩
    · have hh' : hourB h = false := by simpa using hh
      go_wp2_with (first | (go_at_call 106; refine (isHour_any _ _).mono ?_; rintro e w2 ⟨rfl, rfl⟩))
      go_ret2
      exact ⟨(0, -1), rfl, .inl ⟨fun h => hh h.2.1, rfl⟩, b1⟩
  · obtain rfl := says_false hq hs
    clear hq
    go_wp2
    go_ret2
    exact ⟨(0, -1), rfl, .inl ⟨fun h => hs h.1, rfl⟩, b1⟩

end Go.Proofs.YtmecbppblbmchaaGreatDoor

/- The program's ReadAt answers what is read. -/
namespace Go.Proofs.YtmecbppblbmchaaGreatDoor
open Go.ChangeShapes Go.WideShapes Go.ChangeAt Go.RowKit Go.Sort Go.Maps
set_option linter.unusedVariables false
set_option maxRecDepth 100000

theorem implReadAt_is (v : Value) (l : List Ch) (t r h : Int) (w : World) {lo hi : Nat} (hl : ChainsAt lo hi w v l) (hw : WfCh l) (wt : wf t) (wr : wf r) (hn : l.length ≤ 1048576) :
    Calls Tryz.prog 82 #[.agg #[v], .agg #[.int .i64 t, .int .i64 r], .int .i64 h] w fun e w' => e = .returned (.tuple #[.int .i64 (readP l t r h).1, .int .i64 (readP l t r h).2]) ∧ Below w.heap.size w w' :=
  (implReadAt_any v l t r h w hl hw wt wr hn).mono fun e w' ⟨p, h1, h2, h3⟩ => ⟨by rw [h1, readP_is h2], h3⟩
end Go.Proofs.YtmecbppblbmchaaGreatDoor
