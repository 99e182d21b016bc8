/- A block that is a row, free to be written, whose first cells are known. -/
import Derived.Test.YtjikmpdgednlaaaData
import Derived.Outline
import Derived.Deep.DrawnRows
namespace Go.Proofs.Ytjikmpdgednlaaa
open Go.RowKit
set_option linter.unusedVariables false

/-- Block b is a row, free to be written, whose first m cells are f's. -/
def RowOf (w : World) (b : Nat) (T : TypeId) (m : Nat) (f : Nat → Value) : Prop := ∃ c : Array Value, w.heap[b]? = some (.cells c T (0, 0)) ∧ m ≤ c.size ∧ ∀ j, j < m → c[j]? = some (f j)

theorem RowOf.of_rowIs {w : World} {b : Nat} {T : TypeId} {m : Nat} {f : Nat → Value} (h : w.rowIs b T m f) : RowOf w b T m f := by
  obtain ⟨c, h1, h2, h3⟩ := h
  exact ⟨c, h1, by omega, h3⟩
theorem RowOf.cell {w : World} {b : Nat} {T : TypeId} {m : Nat} {f : Nat → Value} (h : RowOf w b T m f) {j : Nat} (hj : j < m) : w.cell? ⟨b, j, none⟩ = some (f j) := by
  obtain ⟨c, hb, _, hc⟩ := h
  simp [World.cell?, hb, hc j hj]
theorem RowOf.frozen {w : World} {b : Nat} {T : TypeId} {m : Nat} {f : Nat → Value} (h : RowOf w b T m f) (j : Nat) : w.frozen? ⟨b, j, none⟩ = false := by
  obtain ⟨c, hb, _, _⟩ := h
  simp [World.frozen?, hb]
theorem RowOf.lt {w : World} {b : Nat} {T : TypeId} {m : Nat} {f : Nat → Value} (h : RowOf w b T m f) : b < w.heap.size := by
  obtain ⟨c, hb, _, _⟩ := h
  exact (Array.getElem?_eq_some_iff.1 hb).1
theorem RowOf.of_block {w w' : World} {b : Nat} {T : TypeId} {m : Nat} {f : Nat → Value} (h : RowOf w b T m f) (e : w'.heap[b]? = w.heap[b]?) : RowOf w' b T m f := by
  obtain ⟨c, hb, h2, h3⟩ := h
  exact ⟨c, e.trans hb, h2, h3⟩
theorem RowOf.congr {w : World} {b : Nat} {T : TypeId} {m : Nat} {f g : Nat → Value} (h : RowOf w b T m f) (e : ∀ j, j < m → f j = g j) : RowOf w b T m g := by
  obtain ⟨c, hb, h2, h3⟩ := h
  exact ⟨c, hb, h2, fun j hj => by rw [h3 j hj, e j hj]⟩
theorem RowOf.set {w : World} {b : Nat} {T : TypeId} {m : Nat} {f : Nat → Value} (h : RowOf w b T m f) (i : Nat) (v : Value) : RowOf (w.setCell ⟨b, i, none⟩ v) b T m (fun j => if j = i then v else f j) := by
  obtain ⟨c, hb, hn, hc⟩ := h
  refine ⟨c.setIfInBounds i v, ?_, by simpa using hn, fun j hj => ?_⟩
  · simp [World.setCell, Array.getElem?_modify, hb]
  · rw [Array.getElem?_setIfInBounds]
    by_cases e : j = i
    · subst e
      simp; omega
    · rw [if_neg (fun h => e h.symm)]
      show c[j]? = some (if j = i then v else f j)
      rw [if_neg e]
      exact hc j hj
theorem RowOf.setOther {w : World} {b : Nat} {T : TypeId} {m : Nat} {f : Nat → Value} (h : RowOf w b T m f) {a : Addr} (ha : b ≠ a.block) (v : Value) : RowOf (w.setCell a v) b T m f := h.of_block (Below.heap_setCell _ _ _ _ ha)

end Go.Proofs.Ytjikmpdgednlaaa
