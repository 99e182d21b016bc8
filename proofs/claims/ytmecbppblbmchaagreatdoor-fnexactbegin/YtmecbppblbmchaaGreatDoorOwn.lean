import Derived.Test.YtmecbppblbmchaaGreatDoorCopy0
import Derived.Test.YtmecbppblbmchaaGreatDoorCopy
/- Stores that a call owns: each list in a block of its own, free to be written. -/
namespace Go.Proofs.YtmecbppblbmchaaGreatDoor
open Go.ChangeShapes Go.WideShapes Go.ChangeAt Go.RowKit
set_option linter.unusedVariables false
set_option maxRecDepth 100000
attribute [local go_sem ↓] Go.wp_at_zero Go.wp_at_succ

/-- Block b is a row, free to be written, whose first m cells are f's. -/
def RowOf (w : World) (b : Nat) (T : TypeId) (m : Nat) (f : Nat → Value) : Prop := ∃ c : Array Value, w.heap[b]? = some (.cells c T (0, 0)) ∧ m ≤ c.size ∧ ∀ j, j < m → c[j]? = some (f j)

theorem RowOf.of_rowIs {w : World} {b : Nat} {T : TypeId} {m : Nat} {f : Nat → Value} (h : w.rowIs b T m f) : RowOf w b T m f := by
  obtain ⟨c, h1, h2, h3⟩ := h
  exact ⟨c, h1, by omega, h3⟩
theorem RowOf.cell {w : World} {b : Nat} {T : TypeId} {m : Nat} {f : Nat → Value} (h : RowOf w b T m f) {j : Nat} (hj : j < m) : w.cell? ⟨b, j, none⟩ = some (f j) := by
  obtain ⟨c, hb, _, hc⟩ := h
  simp [World.cell?, hb, hc j hj]
theorem RowOf.frozen {w : World} {b : Nat} {T : TypeId} {m : Nat} {f : Nat → Value} (h : RowOf w b T m f) (j : Nat) : w.frozen? ⟨b, j, none⟩ = false := by
  obtain ⟨c, hb, _, _⟩ := h
  simp [World.frozen?, hb]
theorem RowOf.lt {w : World} {b : Nat} {T : TypeId} {m : Nat} {f : Nat → Value} (h : RowOf w b T m f) : b < w.heap.size := by
  obtain ⟨c, hb, _, _⟩ := h
  exact (Array.getElem?_eq_some_iff.1 hb).1
theorem RowOf.of_block {w w' : World} {b : Nat} {T : TypeId} {m : Nat} {f : Nat → Value} (h : RowOf w b T m f) (e : w'.heap[b]? = w.heap[b]?) : RowOf w' b T m f := by
  obtain ⟨c, hb, h2, h3⟩ := h
  exact ⟨c, e.trans hb, h2, h3⟩
theorem RowOf.congr {w : World} {b : Nat} {T : TypeId} {m : Nat} {f g : Nat → Value} (h : RowOf w b T m f) (e : ∀ j, j < m → f j = g j) : RowOf w b T m g := by
  obtain ⟨c, hb, h2, h3⟩ := h
  exact ⟨c, hb, h2, fun j hj => by rw [h3 j hj, e j hj]⟩
theorem RowOf.set {w : World} {b : Nat} {T : TypeId} {m : Nat} {f : Nat → Value} (h : RowOf w b T m f) (i : Nat) (v : Value) : RowOf (w.setCell ⟨b, i, none⟩ v) b T m (fun j => if j = i then v else f j) := by
  obtain ⟨c, hb, hn, hc⟩ := h
  refine ⟨c.setIfInBounds i v, ?_, by simpa using hn, fun j hj => ?_⟩
  · simp [World.setCell, Array.getElem?_modify, hb]
  · rw [Array.getElem?_setIfInBounds]
    by_cases e : j = i
    · subst e
      simp; omega
    · rw [if_neg (fun h => e h.symm)]
      show c[j]? = some (if j = i then v else f j)
      rw [if_neg e]
      exact hc j hj
theorem RowOf.setOther {w : World} {b : Nat} {T : TypeId} {m : Nat} {f : Nat → Value} (h : RowOf w b T m f) {a : Addr} (ha : b ≠ a.block) (v : Value) : RowOf (w.setCell a v) b T m f := h.of_block (Below.heap_setCell _ _ _ _ ha)

/-- The versions l lie in block b. -/
def OwnV (w : World) (b : Nat) (l : List Vr) : Prop := ∃ f, RowOf w b 123 (l.length * 2) f ∧ ∀ i, i < l.length → f (i * 2) = .int .i64 (vAt l i).1 ∧ f (i * 2 + 1) = .int .i64 (vAt l i).2

theorem OwnV.of_block {w w' : World} {b : Nat} {l : List Vr} (h : OwnV w b l) (e : w'.heap[b]? = w.heap[b]?) : OwnV w' b l := by
  obtain ⟨f, h1, h2⟩ := h
  exact ⟨f, h1.of_block e, h2⟩
theorem OwnV.lt {w : World} {b : Nat} {l : List Vr} (h : OwnV w b l) : b < w.heap.size := by
  obtain ⟨f, h1, _⟩ := h
  exact h1.lt
theorem OwnV.vers {w : World} {b lo hi c : Nat} {l : List Vr} (h : OwnV w b l) (hlo : lo ≤ b) (hhi : b < hi) (hm : l.length ≤ maxLen) : VersAt lo hi w (.slice (some ⟨b, 0, none⟩) l.length c) l := by
  obtain ⟨f, h1, h2⟩ := h
  refine ⟨_, _, rfl, hm, fun hp => ⟨b, 0, rfl, hlo, hhi, fun i hi => ?_⟩⟩
  have g1 := h1.cell (show i * 2 < l.length * 2 by omega)
  have g2 := h1.cell (show i * 2 + 1 < l.length * 2 by omega)
  rw [(h2 i hi).1] at g1
  rw [(h2 i hi).2] at g2
  exact ⟨by simpa using g1, by simpa using g2⟩

/-- The chains l, owned: the outer row in block b, the i-th list in block Bs i, all of them apart. -/
def OwnC (lo hi : Nat) (w : World) (b : Nat) (Bs : Nat → Nat) (l : List Ch) : Prop :=
  lo ≤ b ∧ b < hi ∧ ∃ f, RowOf w b 94 (l.length * 3) f ∧
    (∀ i, i < l.length → f (i * 3) = .int .i64 (cAt l i).t ∧ f (i * 3 + 1) = .int .i64 (cAt l i).r ∧ (∃ c, (cAt l i).l.length ≤ c ∧ f (i * 3 + 2) = .slice (some ⟨Bs i, 0, none⟩) (cAt l i).l.length c) ∧ OwnV w (Bs i) (cAt l i).l ∧ lo ≤ Bs i ∧ Bs i < hi ∧ Bs i ≠ b) ∧
    ∀ i j, i < j → j < l.length → Bs i ≠ Bs j

theorem OwnC.keep {lo hi : Nat} {w w' : World} {b : Nat} {Bs : Nat → Nat} {l : List Ch} (h : OwnC lo hi w b Bs l) (hs : ∀ k, lo ≤ k → k < hi → k < w.heap.size → w'.heap[k]? = w.heap[k]?) : OwnC lo hi w' b Bs l := by
  obtain ⟨h1, h2, f, h3, h4, h5⟩ := h
  refine ⟨h1, h2, f, h3.of_block (hs b h1 h2 h3.lt), fun i hi => ?_, h5⟩
  obtain ⟨g1, g2, g3, g4, g5, g6, g7⟩ := h4 i hi
  exact ⟨g1, g2, g3, g4.of_block (hs _ g5 g6 g4.lt), g5, g6, g7⟩
theorem OwnC.stays {lo hi : Nat} {w w' : World} {b : Nat} {Bs : Nat → Nat} {l : List Ch} (h : OwnC lo hi w b Bs l) (hb : Below w.heap.size w w') : OwnC lo hi w' b Bs l := h.keep fun k _ _ hlt => hb.block k hlt
theorem OwnC.wide {lo hi lo' hi' : Nat} {w : World} {b : Nat} {Bs : Nat → Nat} {l : List Ch} (h : OwnC lo hi w b Bs l) (hl : lo' ≤ lo) (hh : hi ≤ hi') : OwnC lo' hi' w b Bs l := by
  obtain ⟨h1, h2, f, h3, h4, h5⟩ := h
  refine ⟨by omega, by omega, f, h3, fun i hi => ?_, h5⟩
  obtain ⟨g1, g2, g3, g4, g5, g6, g7⟩ := h4 i hi
  exact ⟨g1, g2, g3, g4, by omega, by omega, g7⟩
theorem OwnC.chains {lo hi : Nat} {w : World} {b c : Nat} {Bs : Nat → Nat} {l : List Ch} (h : OwnC lo hi w b Bs l) (hn : Small l) : ChainsAt lo hi w (.slice (some ⟨b, 0, none⟩) l.length c) l := by
  obtain ⟨h1, h2, f, h3, h4, _⟩ := h
  have hn1 := hn.1
  refine ⟨_, _, rfl, by unfold maxLen; omega, fun hp => ⟨b, 0, rfl, h1, h2, fun i hi => ?_⟩⟩
  obtain ⟨g1, g2, ⟨ci, _, g3⟩, g4, g5, g6, g7⟩ := h4 i hi
  have e1 := h3.cell (show i * 3 < l.length * 3 by omega)
  have e2 := h3.cell (show i * 3 + 1 < l.length * 3 by omega)
  have e3 := h3.cell (show i * 3 + 2 < l.length * 3 by omega)
  rw [g1] at e1
  rw [g2] at e2
  rw [g3] at e3
  exact ⟨by simpa using e1, by simpa using e2, _, _, by simpa using e3, g4.vers g5 g6 (by have := hn.2 i hi; unfold maxLen; omega)⟩

/-- The i-th list's cells: its capacity is no less than its length. -/
theorem OwnC.caps {lo hi : Nat} {w : World} {b : Nat} {Bs : Nat → Nat} {l : List Ch} (h : OwnC lo hi w b Bs l) {i : Nat} (hi' : i < l.length) : ∃ c, (cAt l i).l.length ≤ c ∧ w.cell? ⟨b, i * 3 + 1 + 1, none⟩ = some (.slice (some ⟨Bs i, 0, none⟩) (cAt l i).l.length c) := by
  obtain ⟨h1, h2, f, h3, h4, _⟩ := h
  obtain ⟨g1, g2, ⟨ci, gc, g3⟩, _⟩ := h4 i hi'
  have e3 := h3.cell (show i * 3 + 2 < l.length * 3 by omega)
  rw [g3] at e3
  exact ⟨ci, gc, e3⟩

def upd (Bs : Nat → Nat) (k B : Nat) : Nat → Nat := fun j => if j = k then B else Bs j
theorem upd_same (Bs : Nat → Nat) (k B : Nat) : upd Bs k B k = B := by simp [upd]
theorem upd_other (Bs : Nat → Nat) {k B j : Nat} (h : j ≠ k) : upd Bs k B j = Bs j := by simp [upd, h]

end Go.Proofs.YtmecbppblbmchaaGreatDoor

/- Stores that a call owns: each list in a block of its own, free to be written; the copies that the laws make are such; what marking leaves. -/
namespace Go.Proofs.YtmecbppblbmchaaGreatDoor
open Go.ChangeShapes Go.WideShapes Go.ChangeAt Go.RowKit
set_option linter.unusedVariables false
set_option maxRecDepth 100000
attribute [local go_sem ↓] Go.wp_at_zero Go.wp_at_succ

/-! ### The copies are owned -/

theorem toVerS_own (v : Value) (l : List Vr) (w : World) {lo hi : Nat} (h : VersAt lo hi w v l) (hn : l.length ≤ 1048576) :
    Calls Tryz.prog 135 #[v] w fun e w' => e = .returned (.slice (some ⟨w.heap.size, 0, none⟩) l.length l.length) ∧ OwnV w' w.heap.size l ∧ Below w.heap.size w w' := by
  obtain ⟨a, cap, rfl, hm, hc⟩ := h
  have hmk := make_vers l.length hn
  go_enter Tryz.func135, Tryz.ntmps135
  go_wp2
  go_loopw [4] (fun i wr => ∃ (k : Nat) (f : Nat → Value), k ≤ l.length ∧ i = .int .i64 k ∧ Below w.heap.size w wr ∧ wr.rowIs w.heap.size 123 (l.length * 2) f ∧
      ∀ j, j < k → f (j * 2) = .int .i64 (vAt l j).1 ∧ f (j * 2 + 1) = .int .i64 (vAt l j).2) (fun i _ => l.length - (intOf i).toNat)
  case atStart =>
    exact ⟨0, _, Nat.zero_le _, rfl, (Below.refl _ _).alloc (Nat.le_refl _) _, ⟨_, Deep.blk_alloc_new _ _, size_madeCells _ _, fun i hi => by simp [madeCells, hi]; rfl⟩, fun j hj => absurd hj (Nat.not_lt_zero _)⟩
  case round =>
    obtain ⟨k, f, hk, rfl, hb, hrow, hf⟩ := hrel
    by_cases hlt : k < l.length
    · obtain ⟨b, off, rfl, hlo, hhi, hcc⟩ := hc (by omega)
      have c0 := cell_stays hb (hcc k hlt).1
      have c1 := cell_stays hb (hcc k hlt).2
      clear hcc hc
      go_wp2_with (go_at_call 149; refine (toVer_any _ _ _).mono ?_; rintro e w1 ⟨rfl, hb1⟩; have r1 := hrow.of_block (hb1.block _ hrow.lt); have z0 := r1.cell (show k * 2 < l.length * 2 by omega); have z1 := r1.frozen (k * 2); have z2 := r1.cell (show k * 2 + 1 < l.length * 2 by omega); have z3 := r1.frozen (k * 2 + 1))
      go_roundw
      case rel =>
        refine ⟨k + 1, _, by omega, by go_num, ((hb.trans (hb1.mono hb.size)).setCell (Nat.le_refl _) _).setCell (Nat.le_refl _) _, (r1.set _ _).set _ _, fun j hj => ?_⟩
        by_cases e : j = k
        · subst e; simp
        · have := hf j (by omega)
          rw [if_neg (by omega), if_neg (by omega), if_neg (by omega), if_neg (by omega)]
          exact this
      case measure => simp [intOf]; omega
    · have hkl : k = l.length := by omega
      go_wp2
      go_ret
      exact ⟨rfl, ⟨f, RowOf.of_rowIs hrow, fun i hi => hf i (by omega)⟩, hb⟩

theorem toChain_own (t r : Int) (v : Value) (l : List Vr) (w : World) {lo hi : Nat} (h : VersAt lo hi w v l) (hn : l.length ≤ 1048576) :
    Calls Tryz.prog 101 #[.agg #[.int .i64 t, .int .i64 r, v]] w fun e w' => ∃ B, e = .returned (.agg #[.int .i64 t, .int .i64 r, .slice (some ⟨B, 0, none⟩) l.length l.length]) ∧ OwnV w' B l ∧ w.heap.size ≤ B ∧ Below w.heap.size w w' := by
  obtain ⟨a, cap, hv⟩ : ∃ a cap, v = .slice a l.length cap := by obtain ⟨a, cap, h1, _⟩ := h; exact ⟨a, cap, h1⟩
  subst hv
  go_enter Tryz.func101, Tryz.ntmps101
  go_wp2_with (first | (go_at_call 16; refine (toKey_any _ _ _).mono ?_; rintro e w1 ⟨rfl, hb1⟩; obtain ⟨hc1, hf1⟩ := bcell hb1; have hz1 : w.heap.size + 1 + 1 < w1.heap.size := by { have := hb1.size; simp at this; omega }; have hz1a : w.heap.size + 1 < w1.heap.size := by omega))
  have hbx : Below w.heap.size w ((w1.setCell ⟨w.heap.size + 1 + 1, 0, none⟩ (.int .i64 t)).setCell ⟨w.heap.size + 1 + 1, 1, none⟩ (.int .i64 r)) :=
    ((((((Below.refl _ _).alloc (Nat.le_refl _) _).alloc (by simp) _).alloc (by simp; omega) _).trans (hb1.mono (by simp; omega))).setCell (by simp; omega) _).setCell (by simp; omega) _
  refine (toVerS_own _ l _ (h.stays hbx) hn).mono ?_
  rintro e w2 ⟨rfl, hv, hb2⟩
  obtain ⟨hc2, hf2⟩ := bcell hb2
  have hz2 : w.heap.size + 1 + 1 < w2.heap.size := by have := hb2.size; simp [World.setCell] at this; omega
  go_wp2
  refine bodyPost_ret (v := .agg #[.int .i64 t, .int .i64 r, .slice (some ⟨w1.heap.size, 0, none⟩) l.length l.length]) (by simp [results, Tryz.results101, go_sem, hc2, hc1, hz1a]) rfl ⟨w1.heap.size, rfl, ?_, by omega, ?_⟩
  · simp only [size_setCell] at hv
    refine hv.of_block ?_
    iterate 4 rw [Below.heap_setCell _ _ _ _ (by simp; omega)]
  · exact ((((hbx.trans (hb2.mono (by simp only [size_setCell]; omega))).setCell (by simp; omega) _).setCell (by simp) _).setCell (by simp) _).setCell (by simp) _

theorem toChainS_own (v : Value) (l : List Ch) (w : World) {lo hi : Nat} (h : ChainsAt lo hi w v l) (hn : Small l) :
    Calls Tryz.prog 62 #[v] w fun e w' => ∃ Bs, e = .returned (.slice (some ⟨w.heap.size, 0, none⟩) l.length l.length) ∧ OwnC w.heap.size w'.heap.size w' w.heap.size Bs l ∧ Below w.heap.size w w' := by
  obtain ⟨a, cap, rfl, hm, hc⟩ := h
  have hn1 := hn.1
  have hmk := make_chains l.length hn1
  go_enter Tryz.func62, Tryz.ntmps62
  go_wp2
  go_loopw [4] (fun i wr => ∃ (k : Nat) (f : Nat → Value) (Bs : Nat → Nat), k ≤ l.length ∧ i = .int .i64 k ∧ Below w.heap.size w wr ∧ wr.rowIs w.heap.size 94 (l.length * 3) f ∧
      (∀ j, j < k → f (j * 3) = .int .i64 (cAt l j).t ∧ f (j * 3 + 1) = .int .i64 (cAt l j).r ∧ f (j * 3 + 2) = .slice (some ⟨Bs j, 0, none⟩) (cAt l j).l.length (cAt l j).l.length ∧ OwnV wr (Bs j) (cAt l j).l ∧ w.heap.size < Bs j) ∧
      ∀ i j, i < j → j < k → Bs i < Bs j) (fun i _ => l.length - (intOf i).toNat)
  case atStart =>
    exact ⟨0, _, fun _ => 0, Nat.zero_le _, rfl, (Below.refl _ _).alloc (Nat.le_refl _) _, ⟨_, Deep.blk_alloc_new _ _, size_madeCells _ _, fun i hi => by simp [madeCells, hi]; rfl⟩, fun j hj => absurd hj (Nat.not_lt_zero _), fun i j _ hj => absurd hj (Nat.not_lt_zero _)⟩
  case round =>
    obtain ⟨k, f, Bs, hk, rfl, hb, hrow, hf, hup⟩ := hrel
    by_cases hlt : k < l.length
    · obtain ⟨b, off, rfl, hlo, hhi, hcc⟩ := hc (by omega)
      obtain ⟨c0, c1, a2, cap2, c2, c3⟩ := hcc k hlt
      replace c0 := cell_stays hb c0
      replace c1 := cell_stays hb c1
      replace c2 := cell_stays hb c2
      replace c3 := c3.stays hb
      have hn2 := hn.2 k hlt
      clear hcc hc
      go_wp2_with (go_at_call 101; refine (toChain_own _ _ _ _ _ c3 hn2).mono ?_; rintro e w1 ⟨B, rfl, hv, hB, hb1⟩; have r1 := hrow.of_block (hb1.block _ hrow.lt); have z0 := r1.cell (show k * 3 < l.length * 3 by omega); have z1 := r1.frozen (k * 3); have z2 := r1.cell (show k * 3 + 1 < l.length * 3 by omega); have z3 := r1.frozen (k * 3 + 1); have z4 := r1.cell (show k * 3 + 1 + 1 < l.length * 3 by omega); have z5 := r1.frozen (k * 3 + 1 + 1))
      have hlt' := hrow.lt
      go_roundw
      case rel =>
        refine ⟨k + 1, _, upd Bs k B, by omega, by go_num, (((hb.trans (hb1.mono hb.size)).setCell (Nat.le_refl _) _).setCell (Nat.le_refl _) _).setCell (Nat.le_refl _) _, ((r1.set _ _).set _ _).set _ _, fun j hj => ?_, fun i j hij hj => ?_⟩
        · have hs : ∀ b, w.heap.size < b → (((w1.setCell ⟨w.heap.size, k * 3, none⟩ (Value.int IntKind.i64 (cAt l k).t)).setCell ⟨w.heap.size, k * 3 + 1, none⟩ (Value.int IntKind.i64 (cAt l k).r)).setCell ⟨w.heap.size, k * 3 + 2, none⟩ (Value.slice (some ⟨B, 0, none⟩) (cAt l k).l.length (cAt l k).l.length)).heap[b]? = w1.heap[b]? := fun b hb => by
            iterate 3 rw [Below.heap_setCell _ _ _ _ (by simp; omega)]
          by_cases e : j = k
          · subst e
            exact ⟨by simp, by simp, by simp [upd_same], by rw [upd_same]; exact hv.of_block (hs _ (by omega)), by rw [upd_same]; omega⟩
          · obtain ⟨g1, g2, g3, g4, g5⟩ := hf j (by omega)
            refine ⟨?_, ?_, ?_, ?_, ?_⟩
            · rw [if_neg (by omega), if_neg (by omega), if_neg (by omega)]; exact g1
            · rw [if_neg (by omega), if_neg (by omega), if_neg (by omega)]; exact g2
            · rw [if_neg (by omega), if_neg (by omega), if_neg (by omega), upd_other _ e]; exact g3
            · rw [upd_other _ e]; exact (g4.of_block (hb1.block _ g4.lt)).of_block (hs _ g5)
            · rw [upd_other _ e]; exact g5
        · by_cases e : j = k
          · have := (hf i (by omega)).2.2.2.1.lt
            rw [e, upd_same, upd_other _ (by omega)]; omega
          · rw [upd_other _ e, upd_other _ (by omega)]; exact hup i j hij (by omega)
      case measure => simp [intOf]; omega
    · have hkl : k = l.length := by omega
      go_wp2
      go_ret
      refine ⟨Bs, rfl, ⟨Nat.le_refl _, hrow.lt, f, RowOf.of_rowIs hrow, fun i hi => ?_, fun i j hij hj => by have := hup i j hij (by omega); omega⟩, hb⟩
      obtain ⟨g1, g2, g3, g4, g5⟩ := hf i (by omega)
      exact ⟨g1, g2, ⟨_, Nat.le_refl _, g3⟩, g4, by omega, g4.lt, by omega⟩

theorem toStore_own (v : Value) (l : List Ch) (w : World) {lo hi : Nat} (h : ChainsAt lo hi w v l) (hn : Small l) :
    Calls Tryz.prog 30 #[.agg #[v]] w fun e w' => ∃ b Bs, e = .returned (.agg #[.slice (some ⟨b, 0, none⟩) l.length l.length]) ∧ OwnC w.heap.size w'.heap.size w' b Bs l ∧ Below w.heap.size w w' := by
  obtain ⟨a, cap, hv⟩ : ∃ a cap, v = .slice a l.length cap := by obtain ⟨a, cap, h1, _⟩ := h; exact ⟨a, cap, h1⟩
  subst hv
  go_enter Tryz.func30, Tryz.ntmps30
  go_wp2_with fail
  have hbx : Below w.heap.size w (((w.alloc (Obj.cells #[Value.slice a l.length cap] 24)).alloc (Obj.cells #[Value.slice none 0 0] 32)).alloc (Obj.cells #[Value.slice none 0 0] 32)) :=
    (((Below.refl _ _).alloc (Nat.le_refl _) _).alloc (by simp) _).alloc (by simp; omega) _
  refine (toChainS_own _ l _ (h.stays hbx) hn).mono ?_
  rintro e w2 ⟨Bs, rfl, hv, hb2⟩
  obtain ⟨hc2, hf2⟩ := bcell hb2
  have hz2 : w.heap.size + 1 + 1 < w2.heap.size := by have := hb2.size; simp at this; omega
  go_wp2
  refine bodyPost_ret (v := .agg #[.slice (some ⟨w.heap.size + 1 + 1 + 1, 0, none⟩) l.length l.length]) (by simp [results, Tryz.results30, go_sem, hc2]) rfl ⟨w.heap.size + 1 + 1 + 1, Bs, rfl, ?_, ?_⟩
  · simp only [World.size_alloc] at hv
    refine (hv.keep fun b hb _ _ => ?_).wide (by omega) (by simp only [size_setCell]; omega)
    iterate 2 rw [Below.heap_setCell _ _ _ _ (by simp; omega)]
  · exact ((hbx.trans (hb2.mono (by simp; omega))).setCell (by simp; omega) _).setCell (by simp) _

end Go.Proofs.YtmecbppblbmchaaGreatDoor
