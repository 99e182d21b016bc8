/- Stores that a call owns: each list in a block of its own, free to be written; the copies that the laws make are such; what marking leaves. -/
import Derived.Test.YtgnfiakbcogdlajCopy
import Derived.Test.YtgnfiakbcogdlajOwn0
namespace Go.Proofs.Ytgnfiakbcogdlaj
open Go.ChangeShapes Go.WideShapes Go.ChangeAt Go.RowKit
set_option linter.unusedVariables false
set_option maxRecDepth 100000
attribute [local go_sem ↓] Go.wp_at_zero Go.wp_at_succ

/-! ### The copies are owned -/

theorem toVerS_own (v : Value) (l : List Vr) (w : World) {lo hi : Nat} (h : VersAt lo hi w v l) (hn : l.length ≤ 1048576) :
    Calls Try.prog 95 #[v] w fun e w' => e = .returned (.slice (some ⟨w.heap.size, 0, none⟩) l.length l.length) ∧ OwnV w' w.heap.size l ∧ Below w.heap.size w w' := by
  obtain ⟨a, cap, rfl, hm, hc⟩ := h
  have hmk := make_vers l.length hn
  go_enter Try.func95, Try.ntmps95
  go_wp2
  go_loopw [4] (fun i wr => ∃ (k : Nat) (f : Nat → Value), k ≤ l.length ∧ i = .int .i64 k ∧ Below w.heap.size w wr ∧ wr.rowIs w.heap.size 72 (l.length * 2) f ∧
      ∀ j, j < k → f (j * 2) = .int .i64 (vAt l j).1 ∧ f (j * 2 + 1) = .int .i64 (vAt l j).2) (fun i _ => l.length - (intOf i).toNat)
  case atStart =>
    exact ⟨0, _, Nat.zero_le _, rfl, (Below.refl _ _).alloc (Nat.le_refl _) _, ⟨_, Deep.blk_alloc_new _ _, size_madeCells _ _, fun i hi => by simp [madeCells, hi]; rfl⟩, fun j hj => absurd hj (Nat.not_lt_zero _)⟩
  case round =>
    obtain ⟨k, f, hk, rfl, hb, hrow, hf⟩ := hrel
    by_cases hlt : k < l.length
    · obtain ⟨b, off, rfl, hlo, hhi, hcc⟩ := hc (by omega)
      have c0 := cell_stays hb (hcc k hlt).1
      have c1 := cell_stays hb (hcc k hlt).2
      clear hcc hc
      go_wp2_with (go_at_call 101; refine (toVer_any _ _ _).mono ?_; rintro e w1 ⟨rfl, hb1⟩; have r1 := hrow.of_block (hb1.block _ hrow.lt); have z0 := r1.cell (show k * 2 < l.length * 2 by omega); have z1 := r1.frozen (k * 2); have z2 := r1.cell (show k * 2 + 1 < l.length * 2 by omega); have z3 := r1.frozen (k * 2 + 1))
      go_roundw
      case rel =>
        refine ⟨k + 1, _, by omega, by go_num, ((hb.trans (hb1.mono hb.size)).setCell (Nat.le_refl _) _).setCell (Nat.le_refl _) _, (r1.set _ _).set _ _, fun j hj => ?_⟩
        by_cases e : j = k
        · subst e; simp
        · have := hf j (by omega)
          rw [if_neg (by omega), if_neg (by omega), if_neg (by omega), if_neg (by omega)]
          exact this
      case measure => simp [intOf]; omega
    · have hkl : k = l.length := by omega
      go_wp2
      go_ret
      exact ⟨rfl, ⟨f, RowOf.of_rowIs hrow, fun i hi => hf i (by omega)⟩, hb⟩

theorem toChain_own (t r : Int) (v : Value) (l : List Vr) (w : World) {lo hi : Nat} (h : VersAt lo hi w v l) (hn : l.length ≤ 1048576) :
    Calls Try.prog 78 #[.agg #[.int .i64 t, .int .i64 r, v]] w fun e w' => ∃ B, e = .returned (.agg #[.int .i64 t, .int .i64 r, .slice (some ⟨B, 0, none⟩) l.length l.length]) ∧ OwnV w' B l ∧ w.heap.size ≤ B ∧ Below w.heap.size w w' := by
  obtain ⟨a, cap, hv⟩ : ∃ a cap, v = .slice a l.length cap := by obtain ⟨a, cap, h1, _⟩ := h; exact ⟨a, cap, h1⟩
  subst hv
  go_enter Try.func78, Try.ntmps78
  go_wp2_with (first | (go_at_call 12; refine (toKey_any _ _ _).mono ?_; rintro e w1 ⟨rfl, hb1⟩; obtain ⟨hc1, hf1⟩ := bcell hb1; have hz1 : w.heap.size + 1 + 1 < w1.heap.size := by { have := hb1.size; simp at this; omega }; have hz1a : w.heap.size + 1 < w1.heap.size := by omega))
  have hbx : Below w.heap.size w ((w1.setCell ⟨w.heap.size + 1 + 1, 0, none⟩ (.int .i64 t)).setCell ⟨w.heap.size + 1 + 1, 1, none⟩ (.int .i64 r)) :=
    ((((((Below.refl _ _).alloc (Nat.le_refl _) _).alloc (by simp) _).alloc (by simp; omega) _).trans (hb1.mono (by simp; omega))).setCell (by simp; omega) _).setCell (by simp; omega) _
  refine (toVerS_own _ l _ (h.stays hbx) hn).mono ?_
  rintro e w2 ⟨rfl, hv, hb2⟩
  obtain ⟨hc2, hf2⟩ := bcell hb2
  have hz2 : w.heap.size + 1 + 1 < w2.heap.size := by have := hb2.size; simp [World.setCell] at this; omega
  go_wp2
  refine bodyPost_ret (v := .agg #[.int .i64 t, .int .i64 r, .slice (some ⟨w1.heap.size, 0, none⟩) l.length l.length]) (by simp [results, Try.results78, go_sem, hc2, hc1, hz1a]) rfl ⟨w1.heap.size, rfl, ?_, by omega, ?_⟩
  · simp only [size_setCell] at hv
    refine hv.of_block ?_
    iterate 4 rw [Below.heap_setCell _ _ _ _ (by simp; omega)]
  · exact ((((hbx.trans (hb2.mono (by simp only [size_setCell]; omega))).setCell (by simp; omega) _).setCell (by simp) _).setCell (by simp) _).setCell (by simp) _

theorem toChainS_own (v : Value) (l : List Ch) (w : World) {lo hi : Nat} (h : ChainsAt lo hi w v l) (hn : Small l) :
    Calls Try.prog 41 #[v] w fun e w' => ∃ Bs, e = .returned (.slice (some ⟨w.heap.size, 0, none⟩) l.length l.length) ∧ OwnC w.heap.size w'.heap.size w' w.heap.size Bs l ∧ Below w.heap.size w w' := by
  obtain ⟨a, cap, rfl, hm, hc⟩ := h
  have hn1 := hn.1
  have hmk := make_chains l.length hn1
  go_enter Try.func41, Try.ntmps41
  go_wp2
  go_loopw [4] (fun i wr => ∃ (k : Nat) (f : Nat → Value) (Bs : Nat → Nat), k ≤ l.length ∧ i = .int .i64 k ∧ Below w.heap.size w wr ∧ wr.rowIs w.heap.size 95 (l.length * 3) f ∧
      (∀ j, j < k → f (j * 3) = .int .i64 (cAt l j).t ∧ f (j * 3 + 1) = .int .i64 (cAt l j).r ∧ f (j * 3 + 2) = .slice (some ⟨Bs j, 0, none⟩) (cAt l j).l.length (cAt l j).l.length ∧ OwnV wr (Bs j) (cAt l j).l ∧ w.heap.size < Bs j) ∧
      ∀ i j, i < j → j < k → Bs i < Bs j) (fun i _ => l.length - (intOf i).toNat)
  case atStart =>
    exact ⟨0, _, fun _ => 0, Nat.zero_le _, rfl, (Below.refl _ _).alloc (Nat.le_refl _) _, ⟨_, Deep.blk_alloc_new _ _, size_madeCells _ _, fun i hi => by simp [madeCells, hi]; rfl⟩, fun j hj => absurd hj (Nat.not_lt_zero _), fun i j _ hj => absurd hj (Nat.not_lt_zero _)⟩
  case round =>
    obtain ⟨k, f, Bs, hk, rfl, hb, hrow, hf, hup⟩ := hrel
    by_cases hlt : k < l.length
    · obtain ⟨b, off, rfl, hlo, hhi, hcc⟩ := hc (by omega)
      obtain ⟨c0, c1, a2, cap2, c2, c3⟩ := hcc k hlt
      replace c0 := cell_stays hb c0
      replace c1 := cell_stays hb c1
      replace c2 := cell_stays hb c2
      replace c3 := c3.stays hb
      have hn2 := hn.2 k hlt
      clear hcc hc
      go_wp2_with (go_at_call 78; refine (toChain_own _ _ _ _ _ c3 hn2).mono ?_; rintro e w1 ⟨B, rfl, hv, hB, hb1⟩; have r1 := hrow.of_block (hb1.block _ hrow.lt); have z0 := r1.cell (show k * 3 < l.length * 3 by omega); have z1 := r1.frozen (k * 3); have z2 := r1.cell (show k * 3 + 1 < l.length * 3 by omega); have z3 := r1.frozen (k * 3 + 1); have z4 := r1.cell (show k * 3 + 1 + 1 < l.length * 3 by omega); have z5 := r1.frozen (k * 3 + 1 + 1))
      have hlt' := hrow.lt
      go_roundw
      case rel =>
        refine ⟨k + 1, _, upd Bs k B, by omega, by go_num, (((hb.trans (hb1.mono hb.size)).setCell (Nat.le_refl _) _).setCell (Nat.le_refl _) _).setCell (Nat.le_refl _) _, ((r1.set _ _).set _ _).set _ _, fun j hj => ?_, fun i j hij hj => ?_⟩
        · have hs : ∀ b, w.heap.size < b → (((w1.setCell ⟨w.heap.size, k * 3, none⟩ (Value.int IntKind.i64 (cAt l k).t)).setCell ⟨w.heap.size, k * 3 + 1, none⟩ (Value.int IntKind.i64 (cAt l k).r)).setCell ⟨w.heap.size, k * 3 + 2, none⟩ (Value.slice (some ⟨B, 0, none⟩) (cAt l k).l.length (cAt l k).l.length)).heap[b]? = w1.heap[b]? := fun b hb => by
            iterate 3 rw [Below.heap_setCell _ _ _ _ (by simp; omega)]
          by_cases e : j = k
          · subst e
            exact ⟨by simp, by simp, by simp [upd_same], by rw [upd_same]; exact hv.of_block (hs _ (by omega)), by rw [upd_same]; omega⟩
          · obtain ⟨g1, g2, g3, g4, g5⟩ := hf j (by omega)
            refine ⟨?_, ?_, ?_, ?_, ?_⟩
            · rw [if_neg (by omega), if_neg (by omega), if_neg (by omega)]; exact g1
            · rw [if_neg (by omega), if_neg (by omega), if_neg (by omega)]; exact g2
            · rw [if_neg (by omega), if_neg (by omega), if_neg (by omega), upd_other _ e]; exact g3
            · rw [upd_other _ e]; exact (g4.of_block (hb1.block _ g4.lt)).of_block (hs _ g5)
            · rw [upd_other _ e]; exact g5
        · by_cases e : j = k
          · have := (hf i (by omega)).2.2.2.1.lt
            rw [e, upd_same, upd_other _ (by omega)]; omega
          · rw [upd_other _ e, upd_other _ (by omega)]; exact hup i j hij (by omega)
      case measure => simp [intOf]; omega
    · have hkl : k = l.length := by omega
      go_wp2
      go_ret
      refine ⟨Bs, rfl, ⟨Nat.le_refl _, hrow.lt, f, RowOf.of_rowIs hrow, fun i hi => ?_, fun i j hij hj => by have := hup i j hij (by omega); omega⟩, hb⟩
      obtain ⟨g1, g2, g3, g4, g5⟩ := hf i (by omega)
      exact ⟨g1, g2, ⟨_, Nat.le_refl _, g3⟩, g4, by omega, g4.lt, by omega⟩

theorem toStore_own (v : Value) (l : List Ch) (w : World) {lo hi : Nat} (h : ChainsAt lo hi w v l) (hn : Small l) :
    Calls Try.prog 11 #[.agg #[v]] w fun e w' => ∃ b Bs, e = .returned (.agg #[.slice (some ⟨b, 0, none⟩) l.length l.length]) ∧ OwnC w.heap.size w'.heap.size w' b Bs l ∧ Below w.heap.size w w' := by
  obtain ⟨a, cap, hv⟩ : ∃ a cap, v = .slice a l.length cap := by obtain ⟨a, cap, h1, _⟩ := h; exact ⟨a, cap, h1⟩
  subst hv
  go_enter Try.func11, Try.ntmps11
  go_wp2_with fail
  have hbx : Below w.heap.size w (((w.alloc (Obj.cells #[Value.slice a l.length cap] 24)).alloc (Obj.cells #[Value.slice none 0 0] 31)).alloc (Obj.cells #[Value.slice none 0 0] 31)) :=
    (((Below.refl _ _).alloc (Nat.le_refl _) _).alloc (by simp) _).alloc (by simp; omega) _
  refine (toChainS_own _ l _ (h.stays hbx) hn).mono ?_
  rintro e w2 ⟨Bs, rfl, hv, hb2⟩
  obtain ⟨hc2, hf2⟩ := bcell hb2
  have hz2 : w.heap.size + 1 + 1 < w2.heap.size := by have := hb2.size; simp at this; omega
  go_wp2
  refine bodyPost_ret (v := .agg #[.slice (some ⟨w.heap.size + 1 + 1 + 1, 0, none⟩) l.length l.length]) (by simp [results, Try.results11, go_sem, hc2]) rfl ⟨w.heap.size + 1 + 1 + 1, Bs, rfl, ?_, ?_⟩
  · simp only [World.size_alloc] at hv
    refine (hv.keep fun b hb _ _ => ?_).wide (by omega) (by simp only [size_setCell]; omega)
    iterate 2 rw [Below.heap_setCell _ _ _ _ (by simp; omega)]
  · exact ((hbx.trans (hb2.mono (by simp; omega))).setCell (by simp; omega) _).setCell (by simp) _

end Go.Proofs.Ytgnfiakbcogdlaj
