import Derived.Test.YtmecbppblbmchaaGreatDoorLastV
import Derived.Test.YtmecbppblbmchaaGreatDoorOwn
/- The copying functions of the exact laws for rows, transactions, events and the whole: what they hand back is owned. -/
namespace Go.Proofs.YtmecbppblbmchaaGreatDoor
open Go.ChangeShapes Go.WideShapes Go.ChangeAt Go.RowKit Go.Sort
set_option linter.unusedVariables false
set_option maxRecDepth 100000
attribute [local go_sem ↓] Go.wp_at_zero Go.wp_at_succ

theorem toRow_any (t r v : Int) (w : World) :
    Calls Tryz.prog 136 #[.agg #[.int .i64 t, .int .i64 r, .int .i64 v]] w fun e w' => e = .returned (.agg #[.int .i64 t, .int .i64 r, .int .i64 v]) ∧ Below w.heap.size w w' := by
  go_enter Tryz.func136, Tryz.ntmps136
  go_wp2_with (first | (go_at_call 16; refine (toKey_any _ _ _).mono ?_; rintro e w1 ⟨rfl, hb1⟩; obtain ⟨hc1, hf1⟩ := bcell hb1; have hz1 : w.heap.size + 1 + 1 < w1.heap.size := by { have := hb1.size; simp at this; omega }; have hz1a : w.heap.size + 1 < w1.heap.size := by omega))
  have hbx : Below w.heap.size w w1 := (((Below.refl _ _).alloc (Nat.le_refl _) _).alloc (by simp) _).alloc (by simp; omega) _ |>.trans (hb1.mono (by simp; omega))
  refine bodyPost_ret (v := .agg #[.int .i64 t, .int .i64 r, .int .i64 v]) (by simp [results, Tryz.results136, go_sem, hc1]) rfl ⟨rfl, ?_⟩
  exact (((((hbx.setCell (by simp; omega) _).setCell (by simp; omega) _).setCell (by simp; omega) _).setCell (by simp) _).setCell (by simp) _).setCell (by simp) _

theorem toEv_any (k x t r v a : Int) (w : World) :
    Calls Tryz.prog 64 #[.agg #[.int .i64 k, .int .i64 x, .int .i64 t, .int .i64 r, .int .i64 v, .int .i64 a]] w fun e w' => e = .returned (.agg #[.int .i64 k, .int .i64 x, .int .i64 t, .int .i64 r, .int .i64 v, .int .i64 a]) ∧ Below w.heap.size w w' := by
  go_enter Tryz.func64, Tryz.ntmps64
  go_wp2_with (first | (go_at_call 16; refine (toKey_any _ _ _).mono ?_; rintro e w1 ⟨rfl, hb1⟩; obtain ⟨hc1, hf1⟩ := bcell hb1; have hz1 : w.heap.size + 1 + 1 < w1.heap.size := by { have := hb1.size; simp at this; omega }; have hz1a : w.heap.size + 1 < w1.heap.size := by omega))
  have hbx : Below w.heap.size w w1 := (((Below.refl _ _).alloc (Nat.le_refl _) _).alloc (by simp) _).alloc (by simp; omega) _ |>.trans (hb1.mono (by simp; omega))
  refine bodyPost_ret (v := .agg #[.int .i64 k, .int .i64 x, .int .i64 t, .int .i64 r, .int .i64 v, .int .i64 a]) (by simp [results, Tryz.results64, go_sem, hc1]) rfl ⟨rfl, ?_⟩
  exact (((((((((hbx.setCell (by simp; omega) _).setCell (by simp; omega) _).setCell (by simp; omega) _).setCell (by simp; omega) _).setCell (by simp) _).setCell (by simp) _).setCell (by simp) _).setCell (by simp) _).setCell (by simp) _).setCell (by simp) _

theorem infoRow : (Tryz.prog.info? 111).map (fun i => (i.zero, i.size, i.bytes)) = some (some (.agg #[.int .i64 0, .int .i64 0, .int .i64 0]), 3, 24) := by kernel_rfl
theorem infoTx : (Tryz.prog.info? 97).map (fun i => (i.zero, i.size, i.bytes)) = some (some (.agg #[.int .i64 0, .int .i64 0, .slice none 0 0]), 3, 40) := by kernel_rfl
theorem infoEv : (Tryz.prog.info? 101).map (fun i => (i.zero, i.size, i.bytes)) = some (some (.agg #[.int .i64 0, .int .i64 0, .int .i64 0, .int .i64 0, .int .i64 0, .int .i64 0]), 6, 48) := by kernel_rfl

theorem make_rows (n : Nat) (hn : n ≤ 1048576) (w : World) :
    (Instr.makeSlice 95 (.int .i64 (n : Int)) (.int .i64 (n : Int))).run Tryz.prog w = .ok (.slice (some ⟨w.heap.size, 0, none⟩) n n) (w.alloc (.cells (madeCells #[.int .i64 0, .int .i64 0, .int .i64 0] (n * 3)) 111)) := by
  obtain ⟨i, hi, hz0, hz1, hz2⟩ := info_parts infoRow
  have hr := run_make (P := Tryz.prog) w 95 111 i _ Tryz.underlying95 hi hz0 .i64 .i64 n n (by omega) (Int.le_refl _) (by rw [hz2]; omega) (by omega)
  simpa [hz1, Value.cells] using hr
theorem make_txs (n : Nat) (hn : n ≤ 1048576) (w : World) :
    (Instr.makeSlice 33 (.int .i64 (n : Int)) (.int .i64 (n : Int))).run Tryz.prog w = .ok (.slice (some ⟨w.heap.size, 0, none⟩) n n) (w.alloc (.cells (madeCells #[.int .i64 0, .int .i64 0, .slice none 0 0] (n * 3)) 97)) := by
  obtain ⟨i, hi, hz0, hz1, hz2⟩ := info_parts infoTx
  have hr := run_make (P := Tryz.prog) w 33 97 i _ Tryz.underlying33 hi hz0 .i64 .i64 n n (by omega) (Int.le_refl _) (by rw [hz2]; omega) (by omega)
  simpa [hz1, Value.cells] using hr
theorem make_evs (n : Nat) (hn : n ≤ 1048576) (w : World) :
    (Instr.makeSlice 34 (.int .i64 (n : Int)) (.int .i64 (n : Int))).run Tryz.prog w = .ok (.slice (some ⟨w.heap.size, 0, none⟩) n n) (w.alloc (.cells (madeCells #[.int .i64 0, .int .i64 0, .int .i64 0, .int .i64 0, .int .i64 0, .int .i64 0] (n * 6)) 101)) := by
  obtain ⟨i, hi, hz0, hz1, hz2⟩ := info_parts infoEv
  have hr := run_make (P := Tryz.prog) w 34 101 i _ Tryz.underlying34 hi hz0 .i64 .i64 n n (by omega) (Int.le_refl _) (by rw [hz2]; omega) (by omega)
  simpa [hz1, Value.cells] using hr

theorem toRowS_own (v : Value) (l : List Rw) (w : World) {lo hi : Nat} (h : RowsAt lo hi w v l) (hn : l.length ≤ 1048576) :
    Calls Tryz.prog 102 #[v] w fun e w' => e = .returned (.slice (some ⟨w.heap.size, 0, none⟩) l.length l.length) ∧ OwnW w' w.heap.size l ∧ Below w.heap.size w w' := by
  obtain ⟨a, cap, rfl, hm, hc⟩ := h
  have hmk := make_rows l.length hn
  go_enter Tryz.func102, Tryz.ntmps102
  go_wp2
  go_loopw [4] (fun i wr => ∃ (k : Nat) (f : Nat → Value), k ≤ l.length ∧ i = .int .i64 k ∧ Below w.heap.size w wr ∧ wr.rowIs w.heap.size 111 (l.length * 3) f ∧
      ∀ j, j < k → f (j * 3) = .int .i64 (rAt l j).t ∧ f (j * 3 + 1) = .int .i64 (rAt l j).r ∧ f (j * 3 + 2) = .int .i64 (rAt l j).v) (fun i _ => l.length - (intOf i).toNat)
  case atStart =>
    exact ⟨0, _, Nat.zero_le _, rfl, (Below.refl _ _).alloc (Nat.le_refl _) _, ⟨_, Deep.blk_alloc_new _ _, size_madeCells _ _, fun i hi => by simp [madeCells, hi]; rfl⟩, fun j hj => absurd hj (Nat.not_lt_zero _)⟩
  case round =>
    obtain ⟨k, f, hk, rfl, hb, hrow, hf⟩ := hrel
    by_cases hlt : k < l.length
    · obtain ⟨b, off, rfl, hlo, hhi, hcc⟩ := hc (by omega)
      obtain ⟨c0, c1, c2⟩ := hcc k hlt
      replace c0 := cell_stays hb c0
      replace c1 := cell_stays hb c1
      replace c2 := cell_stays hb c2
      clear hcc hc
      go_wp2_with (go_at_call 136; refine (toRow_any _ _ _ _).mono ?_; rintro e w1 ⟨rfl, hb1⟩; have r1 := hrow.of_block (hb1.block _ hrow.lt); have z0 := r1.cell (show k * 3 < l.length * 3 by omega); have z1 := r1.frozen (k * 3); have z2 := r1.cell (show k * 3 + 1 < l.length * 3 by omega); have z3 := r1.frozen (k * 3 + 1); have z4 := r1.cell (show k * 3 + 1 + 1 < l.length * 3 by omega); have z5 := r1.frozen (k * 3 + 1 + 1))
      go_roundw
      case rel =>
        refine ⟨k + 1, _, by omega, by go_num, (((hb.trans (hb1.mono hb.size)).setCell (Nat.le_refl _) _).setCell (Nat.le_refl _) _).setCell (Nat.le_refl _) _, ((r1.set _ _).set _ _).set _ _, fun j hj => ?_⟩
        by_cases e : j = k
        · subst e; simp
        · obtain ⟨g1, g2, g3⟩ := hf j (by omega)
          refine ⟨?_, ?_, ?_⟩
          · rw [if_neg (by omega), if_neg (by omega), if_neg (by omega)]; exact g1
          · rw [if_neg (by omega), if_neg (by omega), if_neg (by omega)]; exact g2
          · rw [if_neg (by omega), if_neg (by omega), if_neg (by omega)]; exact g3
      case measure => simp [intOf]; omega
    · have hkl : k = l.length := by omega
      go_wp2
      go_ret
      exact ⟨rfl, ⟨f, RowOf.of_rowIs hrow, fun i hi => hf i (by omega)⟩, hb⟩

theorem toEvS_own (v : Value) (l : List Ed) (w : World) {lo hi : Nat} (h : EvsAt lo hi w v l) (hn : l.length ≤ 1048576) :
    Calls Tryz.prog 32 #[v] w fun e w' => e = .returned (.slice (some ⟨w.heap.size, 0, none⟩) l.length l.length) ∧ OwnE w' w.heap.size l ∧ Below w.heap.size w w' := by
  obtain ⟨a, cap, rfl, hm, hc⟩ := h
  have hmk := make_evs l.length hn
  go_enter Tryz.func32, Tryz.ntmps32
  go_wp2
  go_loopw [4] (fun i wr => ∃ (k : Nat) (f : Nat → Value), k ≤ l.length ∧ i = .int .i64 k ∧ Below w.heap.size w wr ∧ wr.rowIs w.heap.size 101 (l.length * 6) f ∧
      ∀ j, j < k → f (j * 6) = .int .i64 (eAt l j).k ∧ f (j * 6 + 1) = .int .i64 (eAt l j).x ∧ f (j * 6 + 2) = .int .i64 (eAt l j).t ∧ f (j * 6 + 3) = .int .i64 (eAt l j).r ∧ f (j * 6 + 4) = .int .i64 (eAt l j).v ∧ f (j * 6 + 5) = .int .i64 (eAt l j).a) (fun i _ => l.length - (intOf i).toNat)
  case atStart =>
    exact ⟨0, _, Nat.zero_le _, rfl, (Below.refl _ _).alloc (Nat.le_refl _) _, ⟨_, Deep.blk_alloc_new _ _, size_madeCells _ _, fun i hi => by simp [madeCells, hi]; rfl⟩, fun j hj => absurd hj (Nat.not_lt_zero _)⟩
  case round =>
    obtain ⟨k, f, hk, rfl, hb, hrow, hf⟩ := hrel
    by_cases hlt : k < l.length
    · obtain ⟨b, off, rfl, hlo, hhi, hcc⟩ := hc (by omega)
      obtain ⟨c0, c1, c2, c3, c4, c5⟩ := hcc k hlt
      replace c0 := cell_stays hb c0
      replace c1 := cell_stays hb c1
      replace c2 := cell_stays hb c2
      replace c3 := cell_stays hb c3
      replace c4 := cell_stays hb c4
      replace c5 := cell_stays hb c5
      clear hcc hc
      go_wp2_with (go_at_call 64; refine (toEv_any _ _ _ _ _ _ _).mono ?_; rintro e w1 ⟨rfl, hb1⟩; have r1 := hrow.of_block (hb1.block _ hrow.lt); have z0 := r1.cell (show k * 6 < l.length * 6 by omega); have z1 := r1.frozen (k * 6); have z2 := r1.cell (show k * 6 + 1 < l.length * 6 by omega); have z3 := r1.frozen (k * 6 + 1); have z4 := r1.cell (show k * 6 + 1 + 1 < l.length * 6 by omega); have z5 := r1.frozen (k * 6 + 1 + 1); have z6 := r1.cell (show k * 6 + 1 + 1 + 1 < l.length * 6 by omega); have z7 := r1.frozen (k * 6 + 1 + 1 + 1); have z8 := r1.cell (show k * 6 + 1 + 1 + 1 + 1 < l.length * 6 by omega); have z9 := r1.frozen (k * 6 + 1 + 1 + 1 + 1); have za := r1.cell (show k * 6 + 1 + 1 + 1 + 1 + 1 < l.length * 6 by omega); have zb := r1.frozen (k * 6 + 1 + 1 + 1 + 1 + 1))
      go_roundw
      case rel =>
        refine ⟨k + 1, _, by omega, by go_num, ((((((hb.trans (hb1.mono hb.size)).setCell (Nat.le_refl _) _).setCell (Nat.le_refl _) _).setCell (Nat.le_refl _) _).setCell (Nat.le_refl _) _).setCell (Nat.le_refl _) _).setCell (Nat.le_refl _) _, (((((r1.set _ _).set _ _).set _ _).set _ _).set _ _).set _ _, fun j hj => ?_⟩
        by_cases e : j = k
        · subst e; simp
        · obtain ⟨g0, g1, g2, g3, g4, g5⟩ := hf j (by omega)
          refine ⟨?_, ?_, ?_, ?_, ?_, ?_⟩
          · iterate 6 rw [if_neg (by omega)]
            exact g0
          · iterate 6 rw [if_neg (by omega)]
            exact g1
          · iterate 6 rw [if_neg (by omega)]
            exact g2
          · iterate 6 rw [if_neg (by omega)]
            exact g3
          · iterate 6 rw [if_neg (by omega)]
            exact g4
          · iterate 6 rw [if_neg (by omega)]
            exact g5
      case measure => simp [intOf]; omega
    · have hkl : k = l.length := by omega
      go_wp2
      go_ret
      exact ⟨rfl, ⟨f, RowOf.of_rowIs hrow, fun i hi => hf i (by omega)⟩, hb⟩

theorem toTx_own (i s : Int) (v : Value) (l : List Rw) (w : World) {lo hi : Nat} (h : RowsAt lo hi w v l) (hn : l.length ≤ 1048576) :
    Calls Tryz.prog 63 #[.agg #[.int .i64 i, .int .i64 s, v]] w fun e w' => ∃ B, e = .returned (.agg #[.int .i64 i, .int .i64 s, .slice (some ⟨B, 0, none⟩) l.length l.length]) ∧ OwnW w' B l ∧ w.heap.size ≤ B ∧ Below w.heap.size w w' := by
  obtain ⟨a, cap, hv⟩ : ∃ a cap, v = .slice a l.length cap := by obtain ⟨a, cap, h1, _⟩ := h; exact ⟨a, cap, h1⟩
  subst hv
  go_enter Tryz.func63, Tryz.ntmps63
  go_wp2_with fail
  have hbx : Below w.heap.size w (((w.alloc (Obj.cells #[Value.int IntKind.i64 i, Value.int IntKind.i64 s, Value.slice a l.length cap] 88)).alloc (Obj.cells #[.int .i64 0, .int .i64 0, Value.slice none 0 0] 97)).alloc (Obj.cells #[.int .i64 i, .int .i64 s, Value.slice none 0 0] 97)) :=
    (((Below.refl _ _).alloc (Nat.le_refl _) _).alloc (by simp) _).alloc (by simp; omega) _
  refine (toRowS_own _ l _ (h.stays hbx) hn).mono ?_
  rintro e w2 ⟨rfl, hv, hb2⟩
  obtain ⟨hc2, hf2⟩ := bcell hb2
  have hz2 : w.heap.size + 1 + 1 < w2.heap.size := by have := hb2.size; simp at this; omega
  go_wp2
  refine bodyPost_ret (v := .agg #[.int .i64 i, .int .i64 s, .slice (some ⟨w.heap.size + 1 + 1 + 1, 0, none⟩) l.length l.length]) (by simp [results, Tryz.results63, go_sem, hc2]) rfl ⟨w.heap.size + 1 + 1 + 1, rfl, ?_, by omega, ?_⟩
  · simp only [World.size_alloc] at hv
    refine hv.of_block ?_
    iterate 4 rw [Below.heap_setCell _ _ _ _ (by first | (simp; done) | (simp; omega))]
  · exact ((((hbx.trans (hb2.mono (by simp only [World.size_alloc]; omega))).setCell (by simp; omega) _).setCell (by simp) _).setCell (by simp) _).setCell (by simp) _

theorem toTxS_own (v : Value) (l : List Td) (w : World) {lo hi : Nat} (h : TxsAt lo hi w v l) (hn1 : l.length ≤ 1048576) (hn : ∀ i, i < l.length → (tAt l i).w.length ≤ 1048576) :
    Calls Tryz.prog 31 #[v] w fun e w' => ∃ Bs, e = .returned (.slice (some ⟨w.heap.size, 0, none⟩) l.length l.length) ∧ OwnT2 w.heap.size w'.heap.size w' w.heap.size Bs l ∧ Below w.heap.size w w' := by
  obtain ⟨a, cap, rfl, hm, hc⟩ := h
  have hmk := make_txs l.length hn1
  go_enter Tryz.func31, Tryz.ntmps31
  go_wp2
  go_loopw [4] (fun i wr => ∃ (k : Nat) (f : Nat → Value) (Bs : Nat → Nat), k ≤ l.length ∧ i = .int .i64 k ∧ Below w.heap.size w wr ∧ wr.rowIs w.heap.size 97 (l.length * 3) f ∧
      (∀ j, j < k → f (j * 3) = .int .i64 (tAt l j).i ∧ f (j * 3 + 1) = .int .i64 (tAt l j).s ∧ f (j * 3 + 2) = .slice (some ⟨Bs j, 0, none⟩) (tAt l j).w.length (tAt l j).w.length ∧ OwnW wr (Bs j) (tAt l j).w ∧ w.heap.size < Bs j) ∧
      ∀ i j, i < j → j < k → Bs i < Bs j) (fun i _ => l.length - (intOf i).toNat)
  case atStart =>
    exact ⟨0, _, fun _ => 0, Nat.zero_le _, rfl, (Below.refl _ _).alloc (Nat.le_refl _) _, ⟨_, Deep.blk_alloc_new _ _, size_madeCells _ _, fun i hi => by simp [madeCells, hi]; rfl⟩, fun j hj => absurd hj (Nat.not_lt_zero _), fun i j _ hj => absurd hj (Nat.not_lt_zero _)⟩
  case round =>
    obtain ⟨k, f, Bs, hk, rfl, hb, hrow, hf, hup⟩ := hrel
    by_cases hlt : k < l.length
    · obtain ⟨b, off, rfl, hlo, hhi, hcc⟩ := hc (by omega)
      obtain ⟨c0, c1, a2, cap2, c2, c3⟩ := hcc k hlt
      replace c0 := cell_stays hb c0
      replace c1 := cell_stays hb c1
      replace c2 := cell_stays hb c2
      replace c3 := c3.stays hb
      have hn2 := hn k hlt
      clear hcc hc
      go_wp2_with (go_at_call 63; refine (toTx_own _ _ _ _ _ c3 hn2).mono ?_; rintro e w1 ⟨B, rfl, hv, hB, hb1⟩; have r1 := hrow.of_block (hb1.block _ hrow.lt); have z0 := r1.cell (show k * 3 < l.length * 3 by omega); have z1 := r1.frozen (k * 3); have z2 := r1.cell (show k * 3 + 1 < l.length * 3 by omega); have z3 := r1.frozen (k * 3 + 1); have z4 := r1.cell (show k * 3 + 1 + 1 < l.length * 3 by omega); have z5 := r1.frozen (k * 3 + 1 + 1))
      have hlt' := hrow.lt
      go_roundw
      case rel =>
        refine ⟨k + 1, _, upd Bs k B, by omega, by go_num, (((hb.trans (hb1.mono hb.size)).setCell (Nat.le_refl _) _).setCell (Nat.le_refl _) _).setCell (Nat.le_refl _) _, ((r1.set _ _).set _ _).set _ _, fun j hj => ?_, fun i j hij hj => ?_⟩
        · have hs : ∀ b, w.heap.size < b → (((w1.setCell ⟨w.heap.size, k * 3, none⟩ (Value.int IntKind.i64 (tAt l k).i)).setCell ⟨w.heap.size, k * 3 + 1, none⟩ (Value.int IntKind.i64 (tAt l k).s)).setCell ⟨w.heap.size, k * 3 + 2, none⟩ (Value.slice (some ⟨B, 0, none⟩) (tAt l k).w.length (tAt l k).w.length)).heap[b]? = w1.heap[b]? := fun b hb => by
            iterate 3 rw [Below.heap_setCell _ _ _ _ (by simp; omega)]
          by_cases e : j = k
          · subst e
            exact ⟨by simp, by simp, by simp [upd_same], by rw [upd_same]; exact hv.of_block (hs _ (by omega)), by rw [upd_same]; omega⟩
          · obtain ⟨g1, g2, g3, g4, g5⟩ := hf j (by omega)
            refine ⟨?_, ?_, ?_, ?_, ?_⟩
            · rw [if_neg (by omega), if_neg (by omega), if_neg (by omega)]; exact g1
            · rw [if_neg (by omega), if_neg (by omega), if_neg (by omega)]; exact g2
            · rw [if_neg (by omega), if_neg (by omega), if_neg (by omega), upd_other _ e]; exact g3
            · rw [upd_other _ e]; exact (g4.of_block (hb1.block _ g4.lt)).of_block (hs _ g5)
            · rw [upd_other _ e]; exact g5
        · by_cases e : j = k
          · have := (hf i (by omega)).2.2.2.1.lt
            rw [e, upd_same, upd_other _ (by omega)]; omega
          · rw [upd_other _ e, upd_other _ (by omega)]; exact hup i j hij (by omega)
      case measure => simp [intOf]; omega
    · have hkl : k = l.length := by omega
      go_wp2
      go_ret
      refine ⟨Bs, rfl, ⟨Nat.le_refl _, hrow.lt, f, RowOf.of_rowIs hrow, fun i hi => ?_, fun i j hij hj => by have := hup i j hij (by omega); omega⟩, hb⟩
      obtain ⟨g1, g2, g3, g4, g5⟩ := hf i (by omega)
      exact ⟨g1, g2, ⟨_, Nat.le_refl _, g3⟩, g4, by omega, g4.lt, by omega⟩

end Go.Proofs.YtmecbppblbmchaaGreatDoor
