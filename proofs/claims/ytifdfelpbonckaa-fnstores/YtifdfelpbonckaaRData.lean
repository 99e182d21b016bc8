/- Rows in memory. -/
import Derived.Test.YtifdfelpbonckaaRows0
namespace Go.Proofs.Ytifdfelpbonckaa
open Go.ChangeShapes Go.WideShapes Go.ChangeAt Go.RowKit Go.Sort
set_option linter.unusedVariables false
set_option maxRecDepth 100000

/-- The slice v holds the rows l. -/
def RowsAt (lo hi : Nat) (w : World) (v : Value) (l : List Rw) : Prop :=
  ∃ a cap, v = .slice a l.length cap ∧ l.length ≤ maxLen ∧ (0 < l.length → ∃ b off, a = some ⟨b, off, none⟩ ∧ lo ≤ b ∧ b < hi ∧
    ∀ i, i < l.length → w.cell? ⟨b, off + i * 3, none⟩ = some (.int .i64 (rAt l i).t) ∧ w.cell? ⟨b, off + i * 3 + 1, none⟩ = some (.int .i64 (rAt l i).r) ∧ w.cell? ⟨b, off + i * 3 + 2, none⟩ = some (.int .i64 (rAt l i).v))

theorem RowsAt.keep {lo hi : Nat} {w w' : World} {v : Value} {l : List Rw} (h : RowsAt lo hi w v l) (hs : ∀ b, lo ≤ b → b < hi → b < w.heap.size → w'.heap[b]? = w.heap[b]?) : RowsAt lo hi w' v l := by
  obtain ⟨a, cap, h1, h2, h3⟩ := h
  refine ⟨a, cap, h1, h2, fun hp => ?_⟩
  obtain ⟨b, off, ha, hl, hh, hc⟩ := h3 hp
  refine ⟨b, off, ha, hl, hh, fun i hi => ?_⟩
  obtain ⟨c0, c1, c2⟩ := hc i hi
  have e := hs b hl hh (cell_lt c0)
  exact ⟨cell_same e c0, cell_same e c1, cell_same e c2⟩
theorem RowsAt.stays {lo hi : Nat} {w w' : World} {v : Value} {l : List Rw} (h : RowsAt lo hi w v l) (hb : Below w.heap.size w w') : RowsAt lo hi w' v l := h.keep fun b _ _ hlt => hb.block b hlt
theorem RowsAt.wide {lo hi lo' hi' : Nat} {w : World} {v : Value} {l : List Rw} (h : RowsAt lo hi w v l) (hl : lo' ≤ lo) (hh : hi ≤ hi') : RowsAt lo' hi' w v l := by
  obtain ⟨a, cap, h1, h2, h3⟩ := h
  refine ⟨a, cap, h1, h2, fun hp => ?_⟩
  obtain ⟨b, off, ha, hl', hh', hc⟩ := h3 hp
  exact ⟨b, off, ha, by omega, by omega, hc⟩

def WfRw (l : List Rw) : Prop := ∀ i, i < l.length → wf (rAt l i).t ∧ wf (rAt l i).r

end Go.Proofs.Ytifdfelpbonckaa
