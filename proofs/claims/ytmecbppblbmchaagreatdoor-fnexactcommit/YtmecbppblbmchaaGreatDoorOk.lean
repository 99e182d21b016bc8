import Derived.Test.YtmecbppblbmchaaGreatDoorCopy
import Derived.Outline
import Derived.Test.YtmecbppblbmchaaGreatDoorRows
import Derived.Deep.RegionHeld3
import Derived.Deep.DrawnRows
import Derived.Deep.QuietTactic
import Derived.BigQuiet
import Derived.Lib.QuietBelow
/- Stores that a call owns: each list in a block of its own, free to be written. -/
namespace Go.Proofs.YtmecbppblbmchaaGreatDoor
open Go.ChangeShapes Go.WideShapes Go.ChangeAt Go.RowKit
set_option linter.unusedVariables false
set_option maxRecDepth 100000
attribute [local go_sem ↓] Go.wp_at_zero Go.wp_at_succ

/-- Block b is a row, free to be written, whose first m cells are f's. -/
def RowOf (w : World) (b : Nat) (T : TypeId) (m : Nat) (f : Nat → Value) : Prop := ∃ c : Array Value, w.heap[b]? = some (.cells c T (0, 0)) ∧ m ≤ c.size ∧ ∀ j, j < m → c[j]? = some (f j)

theorem RowOf.of_rowIs {w : World} {b : Nat} {T : TypeId} {m : Nat} {f : Nat → Value} (h : w.rowIs b T m f) : RowOf w b T m f := by
  obtain ⟨c, h1, h2, h3⟩ := h
  exact ⟨c, h1, by omega, h3⟩
theorem RowOf.cell {w : World} {b : Nat} {T : TypeId} {m : Nat} {f : Nat → Value} (h : RowOf w b T m f) {j : Nat} (hj : j < m) : w.cell? ⟨b, j, none⟩ = some (f j) := by
  obtain ⟨c, hb, _, hc⟩ := h
  simp [World.cell?, hb, hc j hj]
theorem RowOf.frozen {w : World} {b : Nat} {T : TypeId} {m : Nat} {f : Nat → Value} (h : RowOf w b T m f) (j : Nat) : w.frozen? ⟨b, j, none⟩ = false := by
  obtain ⟨c, hb, _, _⟩ := h
  simp [World.frozen?, hb]
theorem RowOf.lt {w : World} {b : Nat} {T : TypeId} {m : Nat} {f : Nat → Value} (h : RowOf w b T m f) : b < w.heap.size := by
  obtain ⟨c, hb, _, _⟩ := h
  exact (Array.getElem?_eq_some_iff.1 hb).1
theorem RowOf.of_block {w w' : World} {b : Nat} {T : TypeId} {m : Nat} {f : Nat → Value} (h : RowOf w b T m f) (e : w'.heap[b]? = w.heap[b]?) : RowOf w' b T m f := by
  obtain ⟨c, hb, h2, h3⟩ := h
  exact ⟨c, e.trans hb, h2, h3⟩
theorem RowOf.congr {w : World} {b : Nat} {T : TypeId} {m : Nat} {f g : Nat → Value} (h : RowOf w b T m f) (e : ∀ j, j < m → f j = g j) : RowOf w b T m g := by
  obtain ⟨c, hb, h2, h3⟩ := h
  exact ⟨c, hb, h2, fun j hj => by rw [h3 j hj, e j hj]⟩
theorem RowOf.set {w : World} {b : Nat} {T : TypeId} {m : Nat} {f : Nat → Value} (h : RowOf w b T m f) (i : Nat) (v : Value) : RowOf (w.setCell ⟨b, i, none⟩ v) b T m (fun j => if j = i then v else f j) := by
  obtain ⟨c, hb, hn, hc⟩ := h
  refine ⟨c.setIfInBounds i v, ?_, by simpa using hn, fun j hj => ?_⟩
  · simp [World.setCell, Array.getElem?_modify, hb]
  · rw [Array.getElem?_setIfInBounds]
    by_cases e : j = i
    · subst e
      simp; omega
    · rw [if_neg (fun h => e h.symm)]
      show c[j]? = some (if j = i then v else f j)
      rw [if_neg e]
      exact hc j hj
theorem RowOf.setOther {w : World} {b : Nat} {T : TypeId} {m : Nat} {f : Nat → Value} (h : RowOf w b T m f) {a : Addr} (ha : b ≠ a.block) (v : Value) : RowOf (w.setCell a v) b T m f := h.of_block (Below.heap_setCell _ _ _ _ ha)

/-- The versions l lie in block b. -/
def OwnV (w : World) (b : Nat) (l : List Vr) : Prop := ∃ f, RowOf w b 123 (l.length * 2) f ∧ ∀ i, i < l.length → f (i * 2) = .int .i64 (vAt l i).1 ∧ f (i * 2 + 1) = .int .i64 (vAt l i).2

theorem OwnV.of_block {w w' : World} {b : Nat} {l : List Vr} (h : OwnV w b l) (e : w'.heap[b]? = w.heap[b]?) : OwnV w' b l := by
  obtain ⟨f, h1, h2⟩ := h
  exact ⟨f, h1.of_block e, h2⟩
theorem OwnV.lt {w : World} {b : Nat} {l : List Vr} (h : OwnV w b l) : b < w.heap.size := by
  obtain ⟨f, h1, _⟩ := h
  exact h1.lt
theorem OwnV.vers {w : World} {b lo hi c : Nat} {l : List Vr} (h : OwnV w b l) (hlo : lo ≤ b) (hhi : b < hi) (hm : l.length ≤ maxLen) : VersAt lo hi w (.slice (some ⟨b, 0, none⟩) l.length c) l := by
  obtain ⟨f, h1, h2⟩ := h
  refine ⟨_, _, rfl, hm, fun hp => ⟨b, 0, rfl, hlo, hhi, fun i hi => ?_⟩⟩
  have g1 := h1.cell (show i * 2 < l.length * 2 by omega)
  have g2 := h1.cell (show i * 2 + 1 < l.length * 2 by omega)
  rw [(h2 i hi).1] at g1
  rw [(h2 i hi).2] at g2
  exact ⟨by simpa using g1, by simpa using g2⟩

/-- The chains l, owned: the outer row in block b, the i-th list in block Bs i, all of them apart. -/
def OwnC (lo hi : Nat) (w : World) (b : Nat) (Bs : Nat → Nat) (l : List Ch) : Prop :=
  lo ≤ b ∧ b < hi ∧ ∃ f, RowOf w b 94 (l.length * 3) f ∧
    (∀ i, i < l.length → f (i * 3) = .int .i64 (cAt l i).t ∧ f (i * 3 + 1) = .int .i64 (cAt l i).r ∧ (∃ c, (cAt l i).l.length ≤ c ∧ f (i * 3 + 2) = .slice (some ⟨Bs i, 0, none⟩) (cAt l i).l.length c) ∧ OwnV w (Bs i) (cAt l i).l ∧ lo ≤ Bs i ∧ Bs i < hi ∧ Bs i ≠ b) ∧
    ∀ i j, i < j → j < l.length → Bs i ≠ Bs j

theorem OwnC.keep {lo hi : Nat} {w w' : World} {b : Nat} {Bs : Nat → Nat} {l : List Ch} (h : OwnC lo hi w b Bs l) (hs : ∀ k, lo ≤ k → k < hi → k < w.heap.size → w'.heap[k]? = w.heap[k]?) : OwnC lo hi w' b Bs l := by
  obtain ⟨h1, h2, f, h3, h4, h5⟩ := h
  refine ⟨h1, h2, f, h3.of_block (hs b h1 h2 h3.lt), fun i hi => ?_, h5⟩
  obtain ⟨g1, g2, g3, g4, g5, g6, g7⟩ := h4 i hi
  exact ⟨g1, g2, g3, g4.of_block (hs _ g5 g6 g4.lt), g5, g6, g7⟩
theorem OwnC.stays {lo hi : Nat} {w w' : World} {b : Nat} {Bs : Nat → Nat} {l : List Ch} (h : OwnC lo hi w b Bs l) (hb : Below w.heap.size w w') : OwnC lo hi w' b Bs l := h.keep fun k _ _ hlt => hb.block k hlt
theorem OwnC.wide {lo hi lo' hi' : Nat} {w : World} {b : Nat} {Bs : Nat → Nat} {l : List Ch} (h : OwnC lo hi w b Bs l) (hl : lo' ≤ lo) (hh : hi ≤ hi') : OwnC lo' hi' w b Bs l := by
  obtain ⟨h1, h2, f, h3, h4, h5⟩ := h
  refine ⟨by omega, by omega, f, h3, fun i hi => ?_, h5⟩
  obtain ⟨g1, g2, g3, g4, g5, g6, g7⟩ := h4 i hi
  exact ⟨g1, g2, g3, g4, by omega, by omega, g7⟩
theorem OwnC.chains {lo hi : Nat} {w : World} {b c : Nat} {Bs : Nat → Nat} {l : List Ch} (h : OwnC lo hi w b Bs l) (hn : Small l) : ChainsAt lo hi w (.slice (some ⟨b, 0, none⟩) l.length c) l := by
  obtain ⟨h1, h2, f, h3, h4, _⟩ := h
  have hn1 := hn.1
  refine ⟨_, _, rfl, by unfold maxLen; omega, fun hp => ⟨b, 0, rfl, h1, h2, fun i hi => ?_⟩⟩
  obtain ⟨g1, g2, ⟨ci, _, g3⟩, g4, g5, g6, g7⟩ := h4 i hi
  have e1 := h3.cell (show i * 3 < l.length * 3 by omega)
  have e2 := h3.cell (show i * 3 + 1 < l.length * 3 by omega)
  have e3 := h3.cell (show i * 3 + 2 < l.length * 3 by omega)
  rw [g1] at e1
  rw [g2] at e2
  rw [g3] at e3
  exact ⟨by simpa using e1, by simpa using e2, _, _, by simpa using e3, g4.vers g5 g6 (by have := hn.2 i hi; unfold maxLen; omega)⟩

/-- The i-th list's cells: its capacity is no less than its length. -/
theorem OwnC.caps {lo hi : Nat} {w : World} {b : Nat} {Bs : Nat → Nat} {l : List Ch} (h : OwnC lo hi w b Bs l) {i : Nat} (hi' : i < l.length) : ∃ c, (cAt l i).l.length ≤ c ∧ w.cell? ⟨b, i * 3 + 1 + 1, none⟩ = some (.slice (some ⟨Bs i, 0, none⟩) (cAt l i).l.length c) := by
  obtain ⟨h1, h2, f, h3, h4, _⟩ := h
  obtain ⟨g1, g2, ⟨ci, gc, g3⟩, _⟩ := h4 i hi'
  have e3 := h3.cell (show i * 3 + 2 < l.length * 3 by omega)
  rw [g3] at e3
  exact ⟨ci, gc, e3⟩

def upd (Bs : Nat → Nat) (k B : Nat) : Nat → Nat := fun j => if j = k then B else Bs j
theorem upd_same (Bs : Nat → Nat) (k B : Nat) : upd Bs k B k = B := by simp [upd]
theorem upd_other (Bs : Nat → Nat) {k B j : Nat} (h : j ≠ k) : upd Bs k B j = Bs j := by simp [upd, h]

end Go.Proofs.YtmecbppblbmchaaGreatDoor

/- Stores that a call owns: each list in a block of its own, free to be written; the copies that the laws make are such; what marking leaves. -/
namespace Go.Proofs.YtmecbppblbmchaaGreatDoor
open Go.ChangeShapes Go.WideShapes Go.ChangeAt Go.RowKit
set_option linter.unusedVariables false
set_option maxRecDepth 100000
attribute [local go_sem ↓] Go.wp_at_zero Go.wp_at_succ

/-! ### The copies are owned -/

theorem toVerS_own (v : Value) (l : List Vr) (w : World) {lo hi : Nat} (h : VersAt lo hi w v l) (hn : l.length ≤ 1048576) :
    Calls Tryz.prog 135 #[v] w fun e w' => e = .returned (.slice (some ⟨w.heap.size, 0, none⟩) l.length l.length) ∧ OwnV w' w.heap.size l ∧ Below w.heap.size w w' := by
  obtain ⟨a, cap, rfl, hm, hc⟩ := h
  have hmk := make_vers l.length hn
  go_enter Tryz.func135, Tryz.ntmps135
  go_wp2
  go_loopw [4] (fun i wr => ∃ (k : Nat) (f : Nat → Value), k ≤ l.length ∧ i = .int .i64 k ∧ Below w.heap.size w wr ∧ wr.rowIs w.heap.size 123 (l.length * 2) f ∧
      ∀ j, j < k → f (j * 2) = .int .i64 (vAt l j).1 ∧ f (j * 2 + 1) = .int .i64 (vAt l j).2) (fun i _ => l.length - (intOf i).toNat)
  case atStart =>
    exact ⟨0, _, Nat.zero_le _, rfl, (Below.refl _ _).alloc (Nat.le_refl _) _, ⟨_, Deep.blk_alloc_new _ _, size_madeCells _ _, fun i hi => by simp [madeCells, hi]; rfl⟩, fun j hj => absurd hj (Nat.not_lt_zero _)⟩
  case round =>
    obtain ⟨k, f, hk, rfl, hb, hrow, hf⟩ := hrel
    by_cases hlt : k < l.length
    · obtain ⟨b, off, rfl, hlo, hhi, hcc⟩ := hc (by omega)
      have c0 := cell_stays hb (hcc k hlt).1
      have c1 := cell_stays hb (hcc k hlt).2
      clear hcc hc
      go_wp2_with (go_at_call 149; refine (toVer_any _ _ _).mono ?_; rintro e w1 ⟨rfl, hb1⟩; have r1 := hrow.of_block (hb1.block _ hrow.lt); have z0 := r1.cell (show k * 2 < l.length * 2 by omega); have z1 := r1.frozen (k * 2); have z2 := r1.cell (show k * 2 + 1 < l.length * 2 by omega); have z3 := r1.frozen (k * 2 + 1))
      go_roundw
      case rel =>
        refine ⟨k + 1, _, by omega, by go_num, ((hb.trans (hb1.mono hb.size)).setCell (Nat.le_refl _) _).setCell (Nat.le_refl _) _, (r1.set _ _).set _ _, fun j hj => ?_⟩
        by_cases e : j = k
        · subst e; simp
        · have := hf j (by omega)
          rw [if_neg (by omega), if_neg (by omega), if_neg (by omega), if_neg (by omega)]
          exact this
      case measure => simp [intOf]; omega
    · have hkl : k = l.length := by omega
      go_wp2
      go_ret
      exact ⟨rfl, ⟨f, RowOf.of_rowIs hrow, fun i hi => hf i (by omega)⟩, hb⟩

theorem toChain_own (t r : Int) (v : Value) (l : List Vr) (w : World) {lo hi : Nat} (h : VersAt lo hi w v l) (hn : l.length ≤ 1048576) :
    Calls Tryz.prog 101 #[.agg #[.int .i64 t, .int .i64 r, v]] w fun e w' => ∃ B, e = .returned (.agg #[.int .i64 t, .int .i64 r, .slice (some ⟨B, 0, none⟩) l.length l.length]) ∧ OwnV w' B l ∧ w.heap.size ≤ B ∧ Below w.heap.size w w' := by
  obtain ⟨a, cap, hv⟩ : ∃ a cap, v = .slice a l.length cap := by obtain ⟨a, cap, h1, _⟩ := h; exact ⟨a, cap, h1⟩
  subst hv
  go_enter Tryz.func101, Tryz.ntmps101
  go_wp2_with (first | (go_at_call 16; refine (toKey_any _ _ _).mono ?_; rintro e w1 ⟨rfl, hb1⟩; obtain ⟨hc1, hf1⟩ := bcell hb1; have hz1 : w.heap.size + 1 + 1 < w1.heap.size := by { have := hb1.size; simp at this; omega }; have hz1a : w.heap.size + 1 < w1.heap.size := by omega))
  have hbx : Below w.heap.size w ((w1.setCell ⟨w.heap.size + 1 + 1, 0, none⟩ (.int .i64 t)).setCell ⟨w.heap.size + 1 + 1, 1, none⟩ (.int .i64 r)) :=
    ((((((Below.refl _ _).alloc (Nat.le_refl _) _).alloc (by simp) _).alloc (by simp; omega) _).trans (hb1.mono (by simp; omega))).setCell (by simp; omega) _).setCell (by simp; omega) _
  refine (toVerS_own _ l _ (h.stays hbx) hn).mono ?_
  rintro e w2 ⟨rfl, hv, hb2⟩
  obtain ⟨hc2, hf2⟩ := bcell hb2
  have hz2 : w.heap.size + 1 + 1 < w2.heap.size := by have := hb2.size; simp [World.setCell] at this; omega
  go_wp2
  refine bodyPost_ret (v := .agg #[.int .i64 t, .int .i64 r, .slice (some ⟨w1.heap.size, 0, none⟩) l.length l.length]) (by simp [results, Tryz.results101, go_sem, hc2, hc1, hz1a]) rfl ⟨w1.heap.size, rfl, ?_, by omega, ?_⟩
  · simp only [size_setCell] at hv
    refine hv.of_block ?_
    iterate 4 rw [Below.heap_setCell _ _ _ _ (by simp; omega)]
  · exact ((((hbx.trans (hb2.mono (by simp only [size_setCell]; omega))).setCell (by simp; omega) _).setCell (by simp) _).setCell (by simp) _).setCell (by simp) _

theorem toChainS_own (v : Value) (l : List Ch) (w : World) {lo hi : Nat} (h : ChainsAt lo hi w v l) (hn : Small l) :
    Calls Tryz.prog 62 #[v] w fun e w' => ∃ Bs, e = .returned (.slice (some ⟨w.heap.size, 0, none⟩) l.length l.length) ∧ OwnC w.heap.size w'.heap.size w' w.heap.size Bs l ∧ Below w.heap.size w w' := by
  obtain ⟨a, cap, rfl, hm, hc⟩ := h
  have hn1 := hn.1
  have hmk := make_chains l.length hn1
  go_enter Tryz.func62, Tryz.ntmps62
  go_wp2
  go_loopw [4] (fun i wr => ∃ (k : Nat) (f : Nat → Value) (Bs : Nat → Nat), k ≤ l.length ∧ i = .int .i64 k ∧ Below w.heap.size w wr ∧ wr.rowIs w.heap.size 94 (l.length * 3) f ∧
      (∀ j, j < k → f (j * 3) = .int .i64 (cAt l j).t ∧ f (j * 3 + 1) = .int .i64 (cAt l j).r ∧ f (j * 3 + 2) = .slice (some ⟨Bs j, 0, none⟩) (cAt l j).l.length (cAt l j).l.length ∧ OwnV wr (Bs j) (cAt l j).l ∧ w.heap.size < Bs j) ∧
      ∀ i j, i < j → j < k → Bs i < Bs j) (fun i _ => l.length - (intOf i).toNat)
  case atStart =>
    exact ⟨0, _, fun _ => 0, Nat.zero_le _, rfl, (Below.refl _ _).alloc (Nat.le_refl _) _, ⟨_, Deep.blk_alloc_new _ _, size_madeCells _ _, fun i hi => by simp [madeCells, hi]; rfl⟩, fun j hj => absurd hj (Nat.not_lt_zero _), fun i j _ hj => absurd hj (Nat.not_lt_zero _)⟩
  case round =>
    obtain ⟨k, f, Bs, hk, rfl, hb, hrow, hf, hup⟩ := hrel
    by_cases hlt : k < l.length
    · obtain ⟨b, off, rfl, hlo, hhi, hcc⟩ := hc (by omega)
      obtain ⟨c0, c1, a2, cap2, c2, c3⟩ := hcc k hlt
      replace c0 := cell_stays hb c0
      replace c1 := cell_stays hb c1
      replace c2 := cell_stays hb c2
      replace c3 := c3.stays hb
      have hn2 := hn.2 k hlt
      clear hcc hc
      go_wp2_with (go_at_call 101; refine (toChain_own _ _ _ _ _ c3 hn2).mono ?_; rintro e w1 ⟨B, rfl, hv, hB, hb1⟩; have r1 := hrow.of_block (hb1.block _ hrow.lt); have z0 := r1.cell (show k * 3 < l.length * 3 by omega); have z1 := r1.frozen (k * 3); have z2 := r1.cell (show k * 3 + 1 < l.length * 3 by omega); have z3 := r1.frozen (k * 3 + 1); have z4 := r1.cell (show k * 3 + 1 + 1 < l.length * 3 by omega); have z5 := r1.frozen (k * 3 + 1 + 1))
      have hlt' := hrow.lt
      go_roundw
      case rel =>
        refine ⟨k + 1, _, upd Bs k B, by omega, by go_num, (((hb.trans (hb1.mono hb.size)).setCell (Nat.le_refl _) _).setCell (Nat.le_refl _) _).setCell (Nat.le_refl _) _, ((r1.set _ _).set _ _).set _ _, fun j hj => ?_, fun i j hij hj => ?_⟩
        · have hs : ∀ b, w.heap.size < b → (((w1.setCell ⟨w.heap.size, k * 3, none⟩ (Value.int IntKind.i64 (cAt l k).t)).setCell ⟨w.heap.size, k * 3 + 1, none⟩ (Value.int IntKind.i64 (cAt l k).r)).setCell ⟨w.heap.size, k * 3 + 2, none⟩ (Value.slice (some ⟨B, 0, none⟩) (cAt l k).l.length (cAt l k).l.length)).heap[b]? = w1.heap[b]? := fun b hb => by
            iterate 3 rw [Below.heap_setCell _ _ _ _ (by simp; omega)]
          by_cases e : j = k
          · subst e
            exact ⟨by simp, by simp, by simp [upd_same], by rw [upd_same]; exact hv.of_block (hs _ (by omega)), by rw [upd_same]; omega⟩
          · obtain ⟨g1, g2, g3, g4, g5⟩ := hf j (by omega)
            refine ⟨?_, ?_, ?_, ?_, ?_⟩
            · rw [if_neg (by omega), if_neg (by omega), if_neg (by omega)]; exact g1
            · rw [if_neg (by omega), if_neg (by omega), if_neg (by omega)]; exact g2
            · rw [if_neg (by omega), if_neg (by omega), if_neg (by omega), upd_other _ e]; exact g3
            · rw [upd_other _ e]; exact (g4.of_block (hb1.block _ g4.lt)).of_block (hs _ g5)
            · rw [upd_other _ e]; exact g5
        · by_cases e : j = k
          · have := (hf i (by omega)).2.2.2.1.lt
            rw [e, upd_same, upd_other _ (by omega)]; omega
          · rw [upd_other _ e, upd_other _ (by omega)]; exact hup i j hij (by omega)
      case measure => simp [intOf]; omega
    · have hkl : k = l.length := by omega
      go_wp2
      go_ret
      refine ⟨Bs, rfl, ⟨Nat.le_refl _, hrow.lt, f, RowOf.of_rowIs hrow, fun i hi => ?_, fun i j hij hj => by have := hup i j hij (by omega); omega⟩, hb⟩
      obtain ⟨g1, g2, g3, g4, g5⟩ := hf i (by omega)
      exact ⟨g1, g2, ⟨_, Nat.le_refl _, g3⟩, g4, by omega, g4.lt, by omega⟩

theorem toStore_own (v : Value) (l : List Ch) (w : World) {lo hi : Nat} (h : ChainsAt lo hi w v l) (hn : Small l) :
    Calls Tryz.prog 30 #[.agg #[v]] w fun e w' => ∃ b Bs, e = .returned (.agg #[.slice (some ⟨b, 0, none⟩) l.length l.length]) ∧ OwnC w.heap.size w'.heap.size w' b Bs l ∧ Below w.heap.size w w' := by
  obtain ⟨a, cap, hv⟩ : ∃ a cap, v = .slice a l.length cap := by obtain ⟨a, cap, h1, _⟩ := h; exact ⟨a, cap, h1⟩
  subst hv
  go_enter Tryz.func30, Tryz.ntmps30
  go_wp2_with fail
  have hbx : Below w.heap.size w (((w.alloc (Obj.cells #[Value.slice a l.length cap] 24)).alloc (Obj.cells #[Value.slice none 0 0] 32)).alloc (Obj.cells #[Value.slice none 0 0] 32)) :=
    (((Below.refl _ _).alloc (Nat.le_refl _) _).alloc (by simp) _).alloc (by simp; omega) _
  refine (toChainS_own _ l _ (h.stays hbx) hn).mono ?_
  rintro e w2 ⟨Bs, rfl, hv, hb2⟩
  obtain ⟨hc2, hf2⟩ := bcell hb2
  have hz2 : w.heap.size + 1 + 1 < w2.heap.size := by have := hb2.size; simp at this; omega
  go_wp2
  refine bodyPost_ret (v := .agg #[.slice (some ⟨w.heap.size + 1 + 1 + 1, 0, none⟩) l.length l.length]) (by simp [results, Tryz.results30, go_sem, hc2]) rfl ⟨w.heap.size + 1 + 1 + 1, Bs, rfl, ?_, ?_⟩
  · simp only [World.size_alloc] at hv
    refine (hv.keep fun b hb _ _ => ?_).wide (by omega) (by simp only [size_setCell]; omega)
    iterate 2 rw [Below.heap_setCell _ _ _ _ (by simp; omega)]
  · exact ((hbx.trans (hb2.mono (by simp; omega))).setCell (by simp; omega) _).setCell (by simp) _

end Go.Proofs.YtmecbppblbmchaaGreatDoor

/- Marking a store that a call owns: nothing else is written. -/
namespace Go.Proofs.YtmecbppblbmchaaGreatDoor
open Go.ChangeShapes Go.WideShapes Go.ChangeAt Go.RowKit
set_option linter.unusedVariables false
set_option maxRecDepth 100000
attribute [local go_sem ↓] Go.wp_at_zero Go.wp_at_succ

/-- Only blocks of p may have been written; none is new. -/
structure Wrote (p : Nat → Prop) (w w' : World) : Prop where
  os : w'.os = w.os
  tape : w'.tape = w.tape
  output : w'.output = w.output
  size : w'.heap.size = w.heap.size
  block : ∀ k, ¬ p k → w'.heap[k]? = w.heap[k]?

theorem Wrote.refl (p : Nat → Prop) (w : World) : Wrote p w w := ⟨rfl, rfl, rfl, rfl, fun _ _ => rfl⟩
theorem Wrote.trans {p : Nat → Prop} {a b c : World} (h : Wrote p a b) (k : Wrote p b c) : Wrote p a c :=
  ⟨k.os.trans h.os, k.tape.trans h.tape, k.output.trans h.output, k.size.trans h.size, fun i hi => (k.block i hi).trans (h.block i hi)⟩
theorem Wrote.setCell {p : Nat → Prop} {a w : World} (h : Wrote p a w) {x : Addr} (hx : p x.block) (u : Value) : Wrote p a (w.setCell x u) :=
  h.trans ⟨rfl, rfl, rfl, by simp [World.setCell], fun k hk => Below.heap_setCell _ _ _ _ (fun e => hk (e ▸ hx))⟩
theorem Wrote.imp {p q : Nat → Prop} {a w : World} (h : Wrote p a w) (hpq : ∀ k, p k → q k) : Wrote q a w :=
  ⟨h.os, h.tape, h.output, h.size, fun k hk => h.block k (fun hp => hk (hpq k hp))⟩
theorem Wrote.below {p : Nat → Prop} {a w : World} {B : Nat} (h : Wrote p a w) (hp : ∀ k, p k → B ≤ k) : Below B a w :=
  ⟨h.os, h.tape, h.output, by rw [h.size]; exact Nat.le_refl _, fun k hk => h.block k (fun h' => by have := hp k h'; omega)⟩

theorem markVerS_any (B m c : Nat) (g : Nat → Value) (k : Nat) (w : World) (hr : RowOf w B 123 (m * 2) g) (hm : m ≤ 1048576) (hk : k ≤ 4611686018427387904) :
    Calls Tryz.prog 116 #[.slice (some ⟨B, 0, none⟩) m c, .int .i64 k] w fun e w' => e = .returned (.int .i64 ((k + 2 * m : Nat) : Int)) ∧ Wrote (fun b => b = B) w w' ∧ RowOf w' B 123 (m * 2) (fun j => .int .i64 ((k + j : Nat) : Int)) := by
  go_enter Tryz.func116, Tryz.ntmps116
  go_wp2
  go_loopw [1, 5] (fun x i wr => ∃ (q : Nat) (g' : Nat → Value), q ≤ m ∧ i = .int .i64 q ∧ x = .int .i64 ((k + 2 * q : Nat) : Int) ∧ Wrote (fun b => b = B) w wr ∧ RowOf wr B 123 (m * 2) g' ∧ ∀ j, j < 2 * q → g' j = .int .i64 ((k + j : Nat) : Int)) (fun _ i _ => m - (intOf i).toNat)
  case atStart => exact ⟨0, g, Nat.zero_le _, rfl, rfl, Wrote.refl _ _, hr, fun j hj => absurd hj (by omega)⟩
  case round =>
    obtain ⟨q, g', hq, rfl, rfl, hw, hrow, hg⟩ := hrel
    by_cases hlt : q < m
    · have z0 := hrow.cell (show q * 2 < m * 2 by omega)
      have z1 := hrow.frozen (q * 2)
      have z2 := hrow.cell (show q * 2 + 1 < m * 2 by omega)
      have z3 := hrow.frozen (q * 2 + 1)
      go_wp2
      go_roundw
      case rel =>
        refine ⟨q + 1, _, by omega, by go_num, ?_, (hw.setCell rfl _).setCell rfl _, (hrow.set _ _).set _ _, fun j hj => ?_⟩
        · congr 1
        · by_cases e1 : j = q * 2 + 1
          · subst e1; simp; omega
          · by_cases e2 : j = q * 2
            · subst e2; simp; omega
            · simp only [if_neg e1, if_neg e2]; exact hg j (by omega)
      case measure => simp [intOf]; omega
    · have hqm : q = m := by omega
      subst hqm
      go_wp2
      go_ret
      exact ⟨rfl, hw, hrow.congr fun j hj => hg j (by omega)⟩

theorem markVerS_at (B m c : Nat) (g : Nat → Value) (x : Int) (k : Nat) (hx : x = (k : Int)) (w : World) (hr : RowOf w B 123 (m * 2) g) (hm : m ≤ 1048576) (hk : k ≤ 4611686018427387904) :
    Calls Tryz.prog 116 #[.slice (some ⟨B, 0, none⟩) m c, .int .i64 x] w fun e w' => e = .returned (.int .i64 ((k + 2 * m : Nat) : Int)) ∧ Wrote (fun b => b = B) w w' ∧ RowOf w' B 123 (m * 2) (fun j => .int .i64 ((k + j : Nat) : Int)) := by
  subst hx
  exact markVerS_any B m c g k w hr hm hk

/-- How many marks lie ahead of the i-th chain. -/
def mk (l : List Ch) : Nat → Nat
  | 0 => 0
  | i + 1 => mk l i + 2 + 2 * (cAt l i).l.length

theorem mk_le {l : List Ch} (hn : Small l) : ∀ i, i ≤ l.length → mk l i ≤ i * 2097154
  | 0, _ => by simp [mk]
  | i + 1, hi => by
    have h1 := mk_le hn i (by omega)
    have h2 := hn.2 i (by omega)
    simp only [mk]
    omega

theorem mk_bound {l : List Ch} (hn : Small l) {i : Nat} (hi : i ≤ l.length) : mk l i ≤ 2199025352704 := by
  have h1 := mk_le hn i hi
  have h2 := hn.1
  omega

/-- The store bears the marks from k on. -/
def MarkedC (lo hi : Nat) (w : World) (b : Nat) (Bs : Nat → Nat) (l : List Ch) (k n : Nat) : Prop :=
  ∃ f, RowOf w b 94 (l.length * 3) f ∧
    (∀ i, i < l.length → (∃ c, f (i * 3 + 2) = .slice (some ⟨Bs i, 0, none⟩) (cAt l i).l.length c) ∧ ∃ g, RowOf w (Bs i) 123 ((cAt l i).l.length * 2) g ∧
      (i < n → f (i * 3) = .int .i64 ((k + mk l i : Nat) : Int) ∧ f (i * 3 + 1) = .int .i64 ((k + mk l i + 1 : Nat) : Int) ∧ ∀ j, j < (cAt l i).l.length * 2 → g j = .int .i64 ((k + mk l i + 2 + j : Nat) : Int)))

theorem markChainS_any (b : Nat) (Bs : Nat → Nat) (l : List Ch) (c : Nat) (k : Nat) (w : World) {lo hi : Nat} (h : OwnC lo hi w b Bs l) (hn : Small l) (hk : k ≤ 1000) :
    Calls Tryz.prog 75 #[.slice (some ⟨b, 0, none⟩) l.length c, .int .i64 k] w fun e w' => e = .returned (.int .i64 ((k + mk l l.length : Nat) : Int)) ∧ Wrote (fun x => lo ≤ x ∧ x < hi) w w' ∧ MarkedC lo hi w' b Bs l k l.length := by
  obtain ⟨h1, h2, f, h3, h4, h5⟩ := h
  have hn1 := hn.1
  go_enter Tryz.func75, Tryz.ntmps75
  go_wp2
  go_loopw [1, 5] (fun x i wr => ∃ (q : Nat), q ≤ l.length ∧ i = .int .i64 q ∧ x = .int .i64 ((k + mk l q : Nat) : Int) ∧ Wrote (fun x => lo ≤ x ∧ x < hi) w wr ∧ MarkedC lo hi wr b Bs l k q) (fun _ i _ => l.length - (intOf i).toNat)
  case atStart =>
    refine ⟨0, Nat.zero_le _, rfl, rfl, Wrote.refl _ _, f, h3, fun i hi => ?_⟩
    obtain ⟨g1, g2, g3, ⟨g, g4, _⟩, _⟩ := h4 i hi
    exact ⟨g3.imp fun _ h => h.2, g, g4, fun h => absurd h (Nat.not_lt_zero _)⟩
  case round =>
    obtain ⟨q, hq, rfl, rfl, hw, f', hrow, hin⟩ := hrel
    have hb := mk_bound hn hq
    by_cases hlt : q < l.length
    · have z0 := hrow.cell (show q * 3 < l.length * 3 by omega)
      have z1 := hrow.frozen (q * 3)
      have z2 := hrow.cell (show q * 3 + 1 < l.length * 3 by omega)
      have z3 := hrow.frozen (q * 3 + 1)
      have z4 := hrow.cell (show q * 3 + 2 < l.length * 3 by omega)
      obtain ⟨⟨cq, eq⟩, gq, hrq, _⟩ := hin q hlt
      rw [eq] at z4
      obtain ⟨_, _, _, _, l1, l2, l3⟩ := h4 q hlt
      have hnq := hn.2 q hlt
      have hrq' : RowOf ((wr.setCell ⟨b, q * 3, none⟩ (.int .i64 (↑k + ↑(mk l q)))).setCell ⟨b, q * 3 + 1, none⟩ (.int .i64 (↑k + ↑(mk l q) + 1))) (Bs q) 123 ((cAt l q).l.length * 2) gq := (hrq.setOther (by simpa using l3) _).setOther (by simpa using l3) _
      go_wp2_with fail
      refine (markVerS_at _ _ _ gq _ (k + mk l q + 2) (by omega) _ hrq' hnq (by omega)).mono ?_
      rintro e w1 ⟨rfl, hw1, hr1⟩
      have hne := l3
      go_wp2
      go_roundw
      case rel =>
        have hbb : w1.heap[b]? = ((wr.setCell ⟨b, q * 3, none⟩ (.int .i64 (↑k + ↑(mk l q)))).setCell ⟨b, q * 3 + 1, none⟩ (.int .i64 (↑k + ↑(mk l q) + 1))).heap[b]? := hw1.block b (fun e => hne e.symm)
        refine ⟨q + 1, by omega, by go_num, ?_, ((hw.setCell ⟨h1, h2⟩ _).setCell ⟨h1, h2⟩ _).trans (hw1.imp fun x hx => by subst hx; exact ⟨l1, l2⟩), _, ((hrow.set _ _).set _ _).of_block hbb, fun i hi => ?_⟩
        · congr 1; simp only [mk]; omega
        · obtain ⟨⟨ci, ei⟩, gi, hri, hmi⟩ := hin i hi
          obtain ⟨_, _, _, _, _, _, l3i⟩ := h4 i hi
          refine ⟨⟨ci, by rw [if_neg (by omega), if_neg (by omega)]; exact ei⟩, ?_⟩
          by_cases e : i = q
          · subst e
            exact ⟨_, hr1, fun _ => ⟨by simp, by simp, fun j hj => rfl⟩⟩
          · have hne2 : Bs i ≠ Bs q := by
              rcases Nat.lt_or_gt_of_ne e with hlt' | hgt
              · exact h5 i q hlt' hlt
              · exact fun e' => h5 q i hgt hi e'.symm
            refine ⟨gi, ((hri.setOther (by simpa using l3i) _).setOther (by simpa using l3i) _).of_block (hw1.block _ hne2), fun hlt' => ?_⟩
            obtain ⟨m1, m2, m3⟩ := hmi (by omega)
            exact ⟨by rw [if_neg (by omega), if_neg (by omega)]; exact m1, by rw [if_neg (by omega), if_neg (by omega)]; exact m2, m3⟩
      case measure => simp [intOf]; omega
    · have hqm : q = l.length := by omega
      subst hqm
      go_wp2
      go_ret
      exact ⟨rfl, hw, f', hrow, hin⟩

theorem markStore_any (b : Nat) (Bs : Nat → Nat) (l : List Ch) (c : Nat) (k : Nat) (w : World) {lo hi : Nat} (h : OwnC lo hi w b Bs l) (hn : Small l) (hk : k ≤ 1000) (hhi : hi ≤ w.heap.size) :
    Calls Tryz.prog 39 #[.agg #[.slice (some ⟨b, 0, none⟩) l.length c], .int .i64 k] w fun e w' => e = .returned (.int .i64 ((k + mk l l.length : Nat) : Int)) ∧ (∀ x, ¬ (lo ≤ x ∧ x < hi) → x < w.heap.size → w'.heap[x]? = w.heap[x]?) ∧ w'.os = w.os ∧ w'.tape = w.tape ∧ w'.output = w.output ∧ w.heap.size ≤ w'.heap.size ∧ MarkedC lo hi w' b Bs l k l.length := by
  have hb := mk_bound hn (Nat.le_refl _)
  go_enter Tryz.func39, Tryz.ntmps39
  go_wp2_with fail
  refine (markChainS_any b Bs l c k _ (h.stays ((Below.refl _ _).alloc (Nat.le_refl _) _)) hn hk).mono ?_
  rintro e w1 ⟨rfl, hw1, hm1⟩
  go_wp2
  go_ret
  refine ⟨rfl, fun x hx hlt => ?_, hw1.os, hw1.tape, hw1.output, ?_, hm1⟩
  · rw [hw1.block x hx, Below.heap_alloc _ _ _ hlt]
  · rw [hw1.size]; simp

end Go.Proofs.YtmecbppblbmchaaGreatDoor

/- The answer to a question. -/
namespace Go.Proofs.YtmecbppblbmchaaGreatDoor
open Go.ChangeShapes Go.WideShapes Go.ChangeAt Go.RowKit
set_option linter.unusedVariables false

/-- The ending is the answer to the question p. -/
def Says (e : Ending) (p : Prop) : Prop := ∃ q : Bool, e = .returned (.bool q) ∧ (q = true ↔ p)

theorem says_yes {p : Prop} (h : p) : Says (.returned (.bool true)) p := ⟨true, rfl, fun _ => h, fun _ => rfl⟩

theorem says_no {p : Prop} (h : ¬ p) : Says (.returned (.bool false)) p := ⟨false, rfl, fun h' => by simp at h', fun h' => absurd h' h⟩

theorem says_false {p : Prop} {q : Bool} (h : q = true ↔ p) (hp : ¬ p) : q = false := by
  cases q
  · rfl
  · exact absurd (h.1 rfl) hp

theorem upto_succ {p : Nat → Prop} {k : Nat} (h : ∀ j, j < k → p j) (hk : p k) : ∀ j, j < k + 1 → p j := fun j hj => by
  by_cases e : j = k
  · exact e ▸ hk
  · exact h j (by omega)

end Go.Proofs.YtmecbppblbmchaaGreatDoor

/- Tables and keys: what is ahead of what. -/
namespace Go.Proofs.YtmecbppblbmchaaGreatDoor
open Go.ChangeShapes Go.WideShapes Go.ChangeAt Go.RowKit Go.Sort
set_option linter.unusedVariables false
set_option maxRecDepth 100000
attribute [local go_sem ↓] Go.wp_at_zero Go.wp_at_succ

def tabB (t : Int) : Bool := decide (0 ≤ t ∧ t < 5)

def klB (a b c d : Int) : Bool := decide (a < c ∨ a = c ∧ b < d)

theorem tabB_iff (t : Int) : tabB t = true ↔ 0 ≤ t ∧ t < 5 := by simp [tabB]

theorem klB_iff (a b c d : Int) : klB a b c d = true ↔ (a < c ∨ a = c ∧ b < d) := by simp [klB]

theorem isTable_any (t : Int) (w : World) :
    Calls Tryz.prog 118 #[.int .i64 t] w fun e w' => e = .returned (.bool (tabB t)) ∧ w' = w := by
  by_cases h1 : 0 ≤ t
  · by_cases h2 : t < 5
    · go_enter Tryz.func118, Tryz.ntmps118
      go_wp2
      go_ret
      exact ⟨by simp [tabB, h1, h2], rfl⟩
    · go_enter Tryz.func118, Tryz.ntmps118
      go_wp2
      go_ret
      exact ⟨by simp [tabB, h1, h2], rfl⟩
  · go_enter Tryz.func118, Tryz.ntmps118
    go_wp2
    go_ret
    exact ⟨by simp [tabB]; omega, rfl⟩

theorem implKeyLess_any (a b c d : Int) (w : World) :
    Calls Tryz.prog 138 #[.agg #[.int .i64 a, .int .i64 b], .agg #[.int .i64 c, .int .i64 d]] w fun e w' => e = .returned (.bool (klB a b c d)) ∧ Below w.heap.size w w' := by
  have hb : Below w.heap.size w ((w.alloc (Obj.cells #[Value.int IntKind.i64 a, Value.int IntKind.i64 b] 46)).alloc (Obj.cells #[Value.int IntKind.i64 c, Value.int IntKind.i64 d] 46)) := (((Below.refl _ _).alloc (Nat.le_refl _) _).alloc (by simp) _)
  by_cases h1 : a < c
  · go_enter Tryz.func138, Tryz.ntmps138
    go_wp2
    go_ret
    exact ⟨by simp [klB, h1], hb⟩
  · by_cases h2 : a = c
    · subst h2
      by_cases h3 : b < d
      · go_enter Tryz.func138, Tryz.ntmps138
        go_wp2
        go_ret
        exact ⟨by simp [klB, h3], hb⟩
      · go_enter Tryz.func138, Tryz.ntmps138
        go_wp2
        go_ret
        exact ⟨by simp [klB, h3], hb⟩
    · go_enter Tryz.func138, Tryz.ntmps138
      go_wp2
      go_ret
      exact ⟨by simp [klB, h1, h2], hb⟩

theorem isTable_below (t : Int) (w : World) : Calls Tryz.prog 118 #[.int .i64 t] w fun e w' => e = .returned (.bool (tabB t)) ∧ Below w.heap.size w w' := by
  refine (isTable_any t w).mono ?_
  rintro e w' ⟨rfl, rfl⟩
  exact ⟨rfl, Below.refl _ _⟩

theorem klB_trans {a b c d e f : Int} (h1 : klB a b c d = true) (h2 : klB c d e f = true) : klB a b e f = true := by
  rw [klB_iff] at *; omega

end Go.Proofs.YtmecbppblbmchaaGreatDoor

/- Tables and keys: the specification's own tests. -/
namespace Go.Proofs.YtmecbppblbmchaaGreatDoor
open Go.ChangeShapes Go.WideShapes Go.ChangeAt Go.RowKit Go.Sort
set_option linter.unusedVariables false
set_option maxRecDepth 100000
attribute [local go_sem ↓] Go.wp_at_zero Go.wp_at_succ

theorem l1table_any (t r : Int) (w : World) :
    Calls Tryz.prog 46 #[.agg #[.int .i64 t, .int .i64 r]] w fun e w' => e = .returned (.bool (tabB t)) ∧ Below w.heap.size w w' := by
  have hb : Below w.heap.size w (w.alloc (Obj.cells #[Value.int IntKind.i64 t, Value.int IntKind.i64 r] 46)) := (Below.refl _ _).alloc (Nat.le_refl _) _
  by_cases h1 : 0 ≤ t
  · by_cases h2 : t < 5
    · go_enter Tryz.func46, Tryz.ntmps46
      go_wp2
      go_ret
      exact ⟨by simp [tabB, h1, h2], hb⟩
    · go_enter Tryz.func46, Tryz.ntmps46
      go_wp2
      go_ret
      exact ⟨by simp [tabB, h1, h2], hb⟩
  · go_enter Tryz.func46, Tryz.ntmps46
    go_wp2
    go_ret
    exact ⟨by simp [tabB]; omega, hb⟩

theorem specKeyLess_any (a b c d : Int) (w : World) :
    Calls Tryz.prog 99 #[.agg #[.int .i64 a, .int .i64 b], .agg #[.int .i64 c, .int .i64 d]] w fun e w' => e = .returned (.bool (klB a b c d)) ∧ Below w.heap.size w w' := by
  have hb : Below w.heap.size w ((w.alloc (Obj.cells #[Value.int IntKind.i64 a, Value.int IntKind.i64 b] 46)).alloc (Obj.cells #[Value.int IntKind.i64 c, Value.int IntKind.i64 d] 46)) := (((Below.refl _ _).alloc (Nat.le_refl _) _).alloc (by simp) _)
  by_cases h1 : a < c
  · go_enter Tryz.func99, Tryz.ntmps99
    go_wp2
    go_ret
    exact ⟨by simp [klB, h1], hb⟩
  · by_cases h2 : a = c
    · subst h2
      by_cases h3 : b < d
      · go_enter Tryz.func99, Tryz.ntmps99
        go_wp2
        go_ret
        exact ⟨by simp [klB, h3], hb⟩
      · go_enter Tryz.func99, Tryz.ntmps99
        go_wp2
        go_ret
        exact ⟨by simp [klB, h3], hb⟩
    · go_enter Tryz.func99, Tryz.ntmps99
      go_wp2
      go_ret
      exact ⟨by simp [klB, h1, h2], hb⟩

end Go.Proofs.YtmecbppblbmchaaGreatDoor

/- What it is to be a store: the small tests, versOk, and both StoreOk functions. -/
namespace Go.Proofs.YtmecbppblbmchaaGreatDoor
open Go.ChangeShapes Go.WideShapes Go.ChangeAt Go.RowKit Go.Sort
set_option linter.unusedVariables false
set_option maxRecDepth 100000
attribute [local go_sem ↓] Go.wp_at_zero Go.wp_at_succ

def hourB (t : Int) : Bool := decide (0 ≤ t ∧ t ≤ 1000000)

theorem hourB_iff (t : Int) : hourB t = true ↔ 0 ≤ t ∧ t ≤ 1000000 := by simp [hourB]


theorem isHour_any (t : Int) (w : World) :
    Calls Tryz.prog 106 #[.int .i64 t] w fun e w' => e = .returned (.bool (hourB t)) ∧ w' = w := by
  by_cases h1 : 0 ≤ t
  · by_cases h2 : t ≤ 1000000
    · go_enter Tryz.func106, Tryz.ntmps106
      go_wp2
      go_ret
      exact ⟨by simp [hourB, h1, h2], rfl⟩
    · go_enter Tryz.func106, Tryz.ntmps106
      go_wp2
      go_ret
      exact ⟨by simp [hourB, h1, h2], rfl⟩
  · go_enter Tryz.func106, Tryz.ntmps106
    go_wp2
    go_ret
    exact ⟨by simp [hourB]; omega, rfl⟩

theorem l1hour_any (t : Int) (w : World) :
    Calls Tryz.prog 58 #[.int .i64 t] w fun e w' => e = .returned (.bool (hourB t)) ∧ w' = w := by
  by_cases h1 : 0 ≤ t
  · by_cases h2 : t ≤ 1000000
    · go_enter Tryz.func58, Tryz.ntmps58
      go_wp2
      go_ret
      exact ⟨by simp [hourB, h1, h2], rfl⟩
    · go_enter Tryz.func58, Tryz.ntmps58
      go_wp2
      go_ret
      exact ⟨by simp [hourB, h1, h2], rfl⟩
  · go_enter Tryz.func58, Tryz.ntmps58
    go_wp2
    go_ret
    exact ⟨by simp [hourB]; omega, rfl⟩




/-- One version behind the others: an hour from 1 to MaxClock, later than the last one. -/
def verOk (l : List Vr) (k : Nat) : Prop := 1 ≤ (vAt l k).1 ∧ (vAt l k).1 ≤ 1000000 ∧ (0 < k → (vAt l (k - 1)).1 < (vAt l k).1)
def versOk (l : List Vr) : Prop := 1 ≤ l.length ∧ l.length ≤ 200 ∧ ∀ k, k < l.length → verOk l k
def chainOk (l : List Ch) (i : Nat) : Prop := tabB (cAt l i).t = true ∧ (0 < i → klB (cAt l (i - 1)).t (cAt l (i - 1)).r (cAt l i).t (cAt l i).r = true) ∧ versOk (cAt l i).l
def storeOk (l : List Ch) : Prop := l.length ≤ 200 ∧ ∀ i, i < l.length → chainOk l i



theorem versOk_any (v : Value) (l : List Vr) (w : World) {lo hi : Nat} (h : VersAt lo hi w v l) :
    Calls Tryz.prog 137 #[v] w fun e w' => Says e (versOk l) ∧ w' = w := by
  obtain ⟨a, cap, rfl, hm, hc⟩ := h
  unfold maxLen at hm
  by_cases h0 : l.length = 0
  · have e0 : ((l.length : Int) == 0) = true := by simp [h0]
    clear hc
    go_enter Tryz.func137, Tryz.ntmps137
    go_wp2
    go_ret
    exact ⟨says_no fun h => by have := h.1; omega, rfl⟩
  · have e0 : ((l.length : Int) == 0) = false := by rw [beq_eq_false_iff_ne]; omega
    by_cases h2 : 200 < l.length
    · clear hc
      go_enter Tryz.func137, Tryz.ntmps137
      go_wp2
      go_ret
      exact ⟨says_no fun h => by have := h.2.1; omega, rfl⟩
    · obtain ⟨b, off, rfl, _, _, hcc⟩ := hc (by omega)
      clear hc
      go_enter Tryz.func137, Tryz.ntmps137
      go_wp2
      go_loop [3, 15] (fun x i => ∃ k : Nat, k ≤ l.length ∧ i = .int .i64 k ∧ (x = .int .i64 (if k = 0 then 0 else (vAt l (k - 1)).1)) ∧ ∀ j, j < k → verOk l j) (fun _ i => l.length - (intOf i).toNat)
      case atStart => exact ⟨0, Nat.zero_le _, rfl, rfl, fun j hj => absurd hj (Nat.not_lt_zero _)⟩
      case round =>
        obtain ⟨k, hk, rfl, rfl, hs⟩ := hrel
        generalize hx : (if k = 0 then (0 : Int) else (vAt l (k - 1)).1) = x
        have HX : Hid ((if k = 0 then (0 : Int) else (vAt l (k - 1)).1) = x) := hx
        clear hx
        by_cases hlt : k < l.length
        · have c0 := (hcc k hlt).1
          by_cases h3 : (vAt l k).1 ≤ x
          · go_wp2
            go_ret
            refine ⟨says_no fun h => ?_, rfl⟩
            have h4 := h.2.2 k hlt
            have h5 := HX.out
            have h6 := h4.1
            by_cases hz : k = 0
            · rw [if_pos hz] at h5; omega
            · rw [if_neg hz] at h5; have := h4.2.2 (by omega); omega
          · by_cases h4 : hourB (vAt l k).1 = true
            · go_wp2_with (go_at_call 106; refine (isHour_any _ _).mono ?_; rintro e w1 ⟨rfl, rfl⟩)
              go_round
              case rel =>
                refine ⟨k + 1, by omega, by go_num, by simp, fun j hj => ?_⟩
                by_cases e : j = k
                · subst e
                  have h5 := HX.out
                  have h6 := (hourB_iff _).1 h4
                  by_cases hz : j = 0
                  · rw [if_pos hz] at h5; exact ⟨by omega, h6.2, fun h => by omega⟩
                  · rw [if_neg hz] at h5
                    have h7 := (hs (j - 1) (by omega)).1
                    exact ⟨by omega, h6.2, fun _ => by omega⟩
                · exact hs j (by omega)
              case measure => simp [intOf]; omega
            · have h4' : hourB (vAt l k).1 = false := by simpa using h4
              go_wp2_with (go_at_call 106; refine (isHour_any _ _).mono ?_; rintro e w1 ⟨rfl, rfl⟩)
              go_ret
              refine ⟨says_no fun h => h4 ?_, rfl⟩
              have := h.2.2 k hlt
              exact (hourB_iff _).2 ⟨by have := this.1; omega, this.2.1⟩
        · go_wp2
          go_ret
          exact ⟨says_yes ⟨by omega, by omega, fun j hj => hs j (by omega)⟩, rfl⟩

theorem implStoreOk_any (v : Value) (l : List Ch) (w : World) {lo hi : Nat} (h : ChainsAt lo hi w v l) :
    Calls Tryz.prog 105 #[.agg #[v]] w fun e w' => Says e (storeOk l) ∧ Below w.heap.size w w' := by
  obtain ⟨a, cap, rfl, hm, hc⟩ := h
  unfold maxLen at hm
  have hbx : Below w.heap.size w (w.alloc (Obj.cells #[Value.slice a l.length cap] 32)) := (Below.refl _ _).alloc (Nat.le_refl _) _
  by_cases h2 : 200 < l.length
  · clear hc
    go_enter Tryz.func105, Tryz.ntmps105
    go_wp2
    go_ret
    exact ⟨says_no fun h => by have := h.1; omega, hbx⟩
  · go_enter Tryz.func105, Tryz.ntmps105
    go_wp2
    go_loopw [12] (fun i wr => ∃ k : Nat, k ≤ l.length ∧ i = .int .i64 k ∧ Below w.heap.size w wr ∧ wr.cell? ⟨w.heap.size, 0, none⟩ = some (.slice a l.length cap) ∧ ∀ j, j < k → chainOk l j) (fun i _ => l.length - (intOf i).toNat)
    case atStart => exact ⟨0, Nat.zero_le _, rfl, hbx, by simp, fun j hj => absurd hj (Nat.not_lt_zero _)⟩
    case round =>
      obtain ⟨k, hk, rfl, hb, hp, hs⟩ := hrel
      by_cases hlt : k < l.length
      · obtain ⟨b, off, rfl, hlo, hhi, hcc⟩ := hc (by omega)
        obtain ⟨c0, c1, ca, cb, c2, c3⟩ := hcc k hlt
        replace c0 := cell_stays hb c0
        replace c1 := cell_stays hb c1
        replace c2 := cell_stays hb c2
        have i0 : (0 : Int) ≤ (k : Int) := by omega
        have i1 : (k : Int) < (l.length : Int) := by omega
        clear hc
        by_cases ht : tabB (cAt l k).t = true
        · by_cases hv : versOk (cAt l k).l
          · by_cases hkp : (0 : Int) < (k : Int)
            · have hkn : 0 < k := by omega
              obtain ⟨p0, p1, pa, pb, p2, p3⟩ := hcc (k - 1) (by omega)
              replace p0 := cell_stays hb p0
              replace p1 := cell_stays hb p1
              by_cases hkl : klB (cAt l (k - 1)).t (cAt l (k - 1)).r (cAt l k).t (cAt l k).r = true
              · go_wp2_with (first | (go_at_call 118; refine (isTable_any _ _).mono ?_; rintro e w1 ⟨rfl, rfl⟩) | (go_at_call 137; refine (versOk_any _ _ _ (c3.stays (hb.alloc hb.size _))).mono ?_; rintro e w1 ⟨⟨q, rfl, hq⟩, rfl⟩; obtain rfl := hq.2 hv; clear hq))
                have hA : Below wr.heap.size wr (wr.alloc (Obj.cells #[Value.int IntKind.i64 (cAt l k).t, Value.int IntKind.i64 (cAt l k).r, Value.slice ca (cAt l k).l.length cb] 94)) := (Below.refl _ _).alloc (Nat.le_refl _) _
                have k0 := cell_regrown (cell_stays hA hp)
                have k1 := cell_regrown (cell_stays hA p0)
                have k2 := cell_regrown (cell_stays hA p1)
                have k3 := cell_regrown (w := wr.alloc (Obj.cells #[Value.int IntKind.i64 (cAt l k).t, Value.int IntKind.i64 (cAt l k).r, Value.slice ca (cAt l k).l.length cb] 94)) (a := ⟨wr.heap.size, 0, none⟩) (v := .int .i64 (cAt l k).t) (by simp)
                have k4 := cell_regrown (w := wr.alloc (Obj.cells #[Value.int IntKind.i64 (cAt l k).t, Value.int IntKind.i64 (cAt l k).r, Value.slice ca (cAt l k).l.length cb] 94)) (a := ⟨wr.heap.size, 1, none⟩) (v := .int .i64 (cAt l k).r) (by simp)
                refine wp_region_quiet_below (by kernel_rfl) (by kernel_rfl) ?_
                repeat (go_big_quiet_step ((go_at_call 138; exact Calls.regrown_of (implKeyLess_any _ _ _ _ _))))
                refine wpQuiet_nil ?_
                intro w2 hw2
                obtain ⟨⟨dq, osq⟩, hw3⟩ := hw2
                have hb2 : Below _ _ w2 := hw3 ▸ below_regrown _ dq osq
                clear hw3
                have hlast : chainOk l k := ⟨ht, fun _ => hkl, hv⟩
                go_wp2
                go_roundw
                case rel => exact ⟨k + 1, by omega, by go_num, hb.trans ((hA.trans (hb2.mono hA.size)).mono hb.size), cell_stays hb2 (cell_stays hA hp), upto_succ hs hlast⟩
                case measure => simp [intOf]; omega
              · have hkl' : klB (cAt l (k - 1)).t (cAt l (k - 1)).r (cAt l k).t (cAt l k).r = false := by simpa using hkl
                go_wp2_with (first | (go_at_call 118; refine (isTable_any _ _).mono ?_; rintro e w1 ⟨rfl, rfl⟩) | (go_at_call 137; refine (versOk_any _ _ _ (c3.stays (hb.alloc hb.size _))).mono ?_; rintro e w1 ⟨⟨q, rfl, hq⟩, rfl⟩; obtain rfl := hq.2 hv; clear hq))
                have hA : Below wr.heap.size wr (wr.alloc (Obj.cells #[Value.int IntKind.i64 (cAt l k).t, Value.int IntKind.i64 (cAt l k).r, Value.slice ca (cAt l k).l.length cb] 94)) := (Below.refl _ _).alloc (Nat.le_refl _) _
                have k0 := cell_regrown (cell_stays hA hp)
                have k1 := cell_regrown (cell_stays hA p0)
                have k2 := cell_regrown (cell_stays hA p1)
                have k3 := cell_regrown (w := wr.alloc (Obj.cells #[Value.int IntKind.i64 (cAt l k).t, Value.int IntKind.i64 (cAt l k).r, Value.slice ca (cAt l k).l.length cb] 94)) (a := ⟨wr.heap.size, 0, none⟩) (v := .int .i64 (cAt l k).t) (by simp)
                have k4 := cell_regrown (w := wr.alloc (Obj.cells #[Value.int IntKind.i64 (cAt l k).t, Value.int IntKind.i64 (cAt l k).r, Value.slice ca (cAt l k).l.length cb] 94)) (a := ⟨wr.heap.size, 1, none⟩) (v := .int .i64 (cAt l k).r) (by simp)
                refine wp_region_quiet_below (by kernel_rfl) (by kernel_rfl) ?_
                repeat (go_big_quiet_step ((go_at_call 138; exact Calls.regrown_of (implKeyLess_any _ _ _ _ _))))
                refine wpQuiet_nil ?_
                intro w2 hw2
                obtain ⟨⟨dq, osq⟩, hw3⟩ := hw2
                have hb2 : Below _ _ w2 := hw3 ▸ below_regrown _ dq osq
                clear hw3
                go_wp2
                go_ret
                exact ⟨says_no fun h => hkl ((h.2 k hlt).2.1 hkn), hb.trans ((hA.trans (hb2.mono hA.size)).mono hb.size)⟩
            · have hd : decide ((0 : Int) < (k : Int)) = false := by simpa using hkp
              have hd' : decide (0 < k) = false := by simp; omega
              go_wp2_with (first | (go_at_call 118; refine (isTable_any _ _).mono ?_; rintro e w1 ⟨rfl, rfl⟩) | (go_at_call 137; refine (versOk_any _ _ _ (c3.stays (hb.alloc hb.size _))).mono ?_; rintro e w1 ⟨⟨q, rfl, hq⟩, rfl⟩; obtain rfl := hq.2 hv; clear hq))
              have hA : Below wr.heap.size wr (wr.alloc (Obj.cells #[Value.int IntKind.i64 (cAt l k).t, Value.int IntKind.i64 (cAt l k).r, Value.slice ca (cAt l k).l.length cb] 94)) := (Below.refl _ _).alloc (Nat.le_refl _) _
              refine wp_region_quiet_below (by kernel_rfl) (by kernel_rfl) ?_
              repeat (go_big_quiet_step (fail))
              refine wpQuiet_nil ?_
              intro w2 hw2
              obtain ⟨⟨dq, osq⟩, hw3⟩ := hw2
              have hb2 : Below _ _ w2 := hw3 ▸ below_regrown _ dq osq
              clear hw3
              have hlast : chainOk l k := ⟨ht, fun h => by omega, hv⟩
              go_wp2
              go_roundw
              case rel => exact ⟨k + 1, by omega, by go_num, hb.trans ((hA.trans (hb2.mono hA.size)).mono hb.size), cell_stays hb2 (cell_stays hA hp), upto_succ hs hlast⟩
              case measure => simp [intOf]; omega
          · go_wp2_with (first | (go_at_call 118; refine (isTable_any _ _).mono ?_; rintro e w1 ⟨rfl, rfl⟩) | (go_at_call 137; refine (versOk_any _ _ _ (c3.stays (hb.alloc hb.size _))).mono ?_; rintro e w1 ⟨⟨q, rfl, hq⟩, rfl⟩; obtain rfl := says_false hq hv; clear hq))
            go_ret
            exact ⟨says_no fun h => hv (h.2 k hlt).2.2, hb.alloc hb.size _⟩
        · have ht' : tabB (cAt l k).t = false := by simpa using ht
          go_wp2_with (first | (go_at_call 118; refine (isTable_any _ _).mono ?_; rintro e w1 ⟨rfl, rfl⟩))
          go_ret
          exact ⟨says_no fun h => ht (h.2 k hlt).1, hb.alloc hb.size _⟩
      · go_wp2
        go_ret
        exact ⟨says_yes ⟨by omega, fun j hj => hs j (by omega)⟩, hb⟩

end Go.Proofs.YtmecbppblbmchaaGreatDoor
