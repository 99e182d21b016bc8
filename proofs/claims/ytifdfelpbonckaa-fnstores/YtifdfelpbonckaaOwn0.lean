/- Stores that a call owns: each list in a block of its own, free to be written. -/
import Derived.Test.YtifdfelpbonckaaCopy0
namespace Go.Proofs.Ytifdfelpbonckaa
open Go.ChangeShapes Go.WideShapes Go.ChangeAt Go.RowKit
set_option linter.unusedVariables false
set_option maxRecDepth 100000
attribute [local go_sem ↓] Go.wp_at_zero Go.wp_at_succ

/-- Block b is a row, free to be written, whose first m cells are f's. -/
def RowOf (w : World) (b : Nat) (T : TypeId) (m : Nat) (f : Nat → Value) : Prop := ∃ c : Array Value, w.heap[b]? = some (.cells c T (0, 0)) ∧ m ≤ c.size ∧ ∀ j, j < m → c[j]? = some (f j)

theorem RowOf.of_rowIs {w : World} {b : Nat} {T : TypeId} {m : Nat} {f : Nat → Value} (h : w.rowIs b T m f) : RowOf w b T m f := by
  obtain ⟨c, h1, h2, h3⟩ := h
  exact ⟨c, h1, by omega, h3⟩
theorem RowOf.cell {w : World} {b : Nat} {T : TypeId} {m : Nat} {f : Nat → Value} (h : RowOf w b T m f) {j : Nat} (hj : j < m) : w.cell? ⟨b, j, none⟩ = some (f j) := by
  obtain ⟨c, hb, _, hc⟩ := h
  simp [World.cell?, hb, hc j hj]
theorem RowOf.frozen {w : World} {b : Nat} {T : TypeId} {m : Nat} {f : Nat → Value} (h : RowOf w b T m f) (j : Nat) : w.frozen? ⟨b, j, none⟩ = false := by
  obtain ⟨c, hb, _, _⟩ := h
  simp [World.frozen?, hb]
theorem RowOf.lt {w : World} {b : Nat} {T : TypeId} {m : Nat} {f : Nat → Value} (h : RowOf w b T m f) : b < w.heap.size := by
  obtain ⟨c, hb, _, _⟩ := h
  exact (Array.getElem?_eq_some_iff.1 hb).1
theorem RowOf.of_block {w w' : World} {b : Nat} {T : TypeId} {m : Nat} {f : Nat → Value} (h : RowOf w b T m f) (e : w'.heap[b]? = w.heap[b]?) : RowOf w' b T m f := by
  obtain ⟨c, hb, h2, h3⟩ := h
  exact ⟨c, e.trans hb, h2, h3⟩
theorem RowOf.congr {w : World} {b : Nat} {T : TypeId} {m : Nat} {f g : Nat → Value} (h : RowOf w b T m f) (e : ∀ j, j < m → f j = g j) : RowOf w b T m g := by
  obtain ⟨c, hb, h2, h3⟩ := h
  exact ⟨c, hb, h2, fun j hj => by rw [h3 j hj, e j hj]⟩
theorem RowOf.set {w : World} {b : Nat} {T : TypeId} {m : Nat} {f : Nat → Value} (h : RowOf w b T m f) (i : Nat) (v : Value) : RowOf (w.setCell ⟨b, i, none⟩ v) b T m (fun j => if j = i then v else f j) := by
  obtain ⟨c, hb, hn, hc⟩ := h
  refine ⟨c.setIfInBounds i v, ?_, by simpa using hn, fun j hj => ?_⟩
  · simp [World.setCell, Array.getElem?_modify, hb]
  · rw [Array.getElem?_setIfInBounds]
    by_cases e : j = i
    · subst e
      simp; omega
    · rw [if_neg (fun h => e h.symm)]
      show c[j]? = some (if j = i then v else f j)
      rw [if_neg e]
      exact hc j hj
theorem RowOf.setOther {w : World} {b : Nat} {T : TypeId} {m : Nat} {f : Nat → Value} (h : RowOf w b T m f) {a : Addr} (ha : b ≠ a.block) (v : Value) : RowOf (w.setCell a v) b T m f := h.of_block (Below.heap_setCell _ _ _ _ ha)

/-- The versions l lie in block b. -/
def OwnV (w : World) (b : Nat) (l : List Vr) : Prop := ∃ f, RowOf w b 69 (l.length * 2) f ∧ ∀ i, i < l.length → f (i * 2) = .int .i64 (vAt l i).1 ∧ f (i * 2 + 1) = .int .i64 (vAt l i).2

theorem OwnV.of_block {w w' : World} {b : Nat} {l : List Vr} (h : OwnV w b l) (e : w'.heap[b]? = w.heap[b]?) : OwnV w' b l := by
  obtain ⟨f, h1, h2⟩ := h
  exact ⟨f, h1.of_block e, h2⟩
theorem OwnV.lt {w : World} {b : Nat} {l : List Vr} (h : OwnV w b l) : b < w.heap.size := by
  obtain ⟨f, h1, _⟩ := h
  exact h1.lt
theorem OwnV.vers {w : World} {b lo hi c : Nat} {l : List Vr} (h : OwnV w b l) (hlo : lo ≤ b) (hhi : b < hi) (hm : l.length ≤ maxLen) : VersAt lo hi w (.slice (some ⟨b, 0, none⟩) l.length c) l := by
  obtain ⟨f, h1, h2⟩ := h
  refine ⟨_, _, rfl, hm, fun hp => ⟨b, 0, rfl, hlo, hhi, fun i hi => ?_⟩⟩
  have g1 := h1.cell (show i * 2 < l.length * 2 by omega)
  have g2 := h1.cell (show i * 2 + 1 < l.length * 2 by omega)
  rw [(h2 i hi).1] at g1
  rw [(h2 i hi).2] at g2
  exact ⟨by simpa using g1, by simpa using g2⟩

/-- The chains l, owned: the outer row in block b, the i-th list in block Bs i, all of them apart. -/
def OwnC (lo hi : Nat) (w : World) (b : Nat) (Bs : Nat → Nat) (l : List Ch) : Prop :=
  lo ≤ b ∧ b < hi ∧ ∃ f, RowOf w b 49 (l.length * 3) f ∧
    (∀ i, i < l.length → f (i * 3) = .int .i64 (cAt l i).t ∧ f (i * 3 + 1) = .int .i64 (cAt l i).r ∧ (∃ c, (cAt l i).l.length ≤ c ∧ f (i * 3 + 2) = .slice (some ⟨Bs i, 0, none⟩) (cAt l i).l.length c) ∧ OwnV w (Bs i) (cAt l i).l ∧ lo ≤ Bs i ∧ Bs i < hi ∧ Bs i ≠ b) ∧
    ∀ i j, i < j → j < l.length → Bs i ≠ Bs j

theorem OwnC.keep {lo hi : Nat} {w w' : World} {b : Nat} {Bs : Nat → Nat} {l : List Ch} (h : OwnC lo hi w b Bs l) (hs : ∀ k, lo ≤ k → k < hi → k < w.heap.size → w'.heap[k]? = w.heap[k]?) : OwnC lo hi w' b Bs l := by
  obtain ⟨h1, h2, f, h3, h4, h5⟩ := h
  refine ⟨h1, h2, f, h3.of_block (hs b h1 h2 h3.lt), fun i hi => ?_, h5⟩
  obtain ⟨g1, g2, g3, g4, g5, g6, g7⟩ := h4 i hi
  exact ⟨g1, g2, g3, g4.of_block (hs _ g5 g6 g4.lt), g5, g6, g7⟩
theorem OwnC.stays {lo hi : Nat} {w w' : World} {b : Nat} {Bs : Nat → Nat} {l : List Ch} (h : OwnC lo hi w b Bs l) (hb : Below w.heap.size w w') : OwnC lo hi w' b Bs l := h.keep fun k _ _ hlt => hb.block k hlt
theorem OwnC.wide {lo hi lo' hi' : Nat} {w : World} {b : Nat} {Bs : Nat → Nat} {l : List Ch} (h : OwnC lo hi w b Bs l) (hl : lo' ≤ lo) (hh : hi ≤ hi') : OwnC lo' hi' w b Bs l := by
  obtain ⟨h1, h2, f, h3, h4, h5⟩ := h
  refine ⟨by omega, by omega, f, h3, fun i hi => ?_, h5⟩
  obtain ⟨g1, g2, g3, g4, g5, g6, g7⟩ := h4 i hi
  exact ⟨g1, g2, g3, g4, by omega, by omega, g7⟩
theorem OwnC.chains {lo hi : Nat} {w : World} {b c : Nat} {Bs : Nat → Nat} {l : List Ch} (h : OwnC lo hi w b Bs l) (hn : Small l) : ChainsAt lo hi w (.slice (some ⟨b, 0, none⟩) l.length c) l := by
  obtain ⟨h1, h2, f, h3, h4, _⟩ := h
  have hn1 := hn.1
  refine ⟨_, _, rfl, by unfold maxLen; omega, fun hp => ⟨b, 0, rfl, h1, h2, fun i hi => ?_⟩⟩
  obtain ⟨g1, g2, ⟨ci, _, g3⟩, g4, g5, g6, g7⟩ := h4 i hi
  have e1 := h3.cell (show i * 3 < l.length * 3 by omega)
  have e2 := h3.cell (show i * 3 + 1 < l.length * 3 by omega)
  have e3 := h3.cell (show i * 3 + 2 < l.length * 3 by omega)
  rw [g1] at e1
  rw [g2] at e2
  rw [g3] at e3
  exact ⟨by simpa using e1, by simpa using e2, _, _, by simpa using e3, g4.vers g5 g6 (by have := hn.2 i hi; unfold maxLen; omega)⟩

/-- The i-th list's cells: its capacity is no less than its length. -/
theorem OwnC.caps {lo hi : Nat} {w : World} {b : Nat} {Bs : Nat → Nat} {l : List Ch} (h : OwnC lo hi w b Bs l) {i : Nat} (hi' : i < l.length) : ∃ c, (cAt l i).l.length ≤ c ∧ w.cell? ⟨b, i * 3 + 1 + 1, none⟩ = some (.slice (some ⟨Bs i, 0, none⟩) (cAt l i).l.length c) := by
  obtain ⟨h1, h2, f, h3, h4, _⟩ := h
  obtain ⟨g1, g2, ⟨ci, gc, g3⟩, _⟩ := h4 i hi'
  have e3 := h3.cell (show i * 3 + 2 < l.length * 3 by omega)
  rw [g3] at e3
  exact ⟨ci, gc, e3⟩

def upd (Bs : Nat → Nat) (k B : Nat) : Nat → Nat := fun j => if j = k then B else Bs j
theorem upd_same (Bs : Nat → Nat) (k B : Nat) : upd Bs k B k = B := by simp [upd]
theorem upd_other (Bs : Nat → Nat) {k B j : Nat} (h : j ≠ k) : upd Bs k B j = Bs j := by simp [upd, h]

end Go.Proofs.Ytifdfelpbonckaa
