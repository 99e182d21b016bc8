/- The plain data of variables: what it means that a slice in memory holds variables. -/
import Derived.Test.YtjikmpdgednlaaaOpen0
import Derived.Test.YtjikmpdgednlaaaTData
import Derived.Test.YtjikmpdgednlaaaRowOf
import Derived.Test.YtjikmpdgednlaaaRegLast
import Derived.Outline
import Derived.Handy
import Derived.Deep.RegionHeld3
import Derived.Deep.DrawnRows
import Derived.ChangeMaps5
namespace Go.Proofs.Ytjikmpdgednlaaa
open Go.ChangeShapes Go.WideShapes Go.ChangeAt Go.RowKit Go.Deep Go.Joins
set_option linter.unusedVariables false
set_option maxRecDepth 100000
attribute [local go_sem ↓] Go.wp_at_zero Go.wp_at_succ

abbrev Va := ByteArray × Int
def va0 : Va := (ByteArray.empty, 0)
def vaAt (l : List Va) (i : Nat) : Va := l.getD i va0

/-- The slice v holds the variables l, in blocks from lo on and ahead of hi. -/
def VarsAt (lo hi : Nat) (w : World) (v : Value) (l : List Va) : Prop :=
  ∃ a cap, v = .slice a l.length cap ∧ l.length ≤ maxLen ∧ (0 < l.length → ∃ b off, a = some ⟨b, off, none⟩ ∧ lo ≤ b ∧ b < hi ∧
    ∀ i, i < l.length → w.cell? ⟨b, off + i * 2, none⟩ = some (.string (vaAt l i).1) ∧ w.cell? ⟨b, off + i * 2 + 1, none⟩ = some (.int .i64 (vaAt l i).2))

theorem VarsAt.keep {lo hi : Nat} {w w' : World} {v : Value} {l : List Va} (h : VarsAt lo hi w v l) (hs : ∀ b, lo ≤ b → b < hi → b < w.heap.size → w'.heap[b]? = w.heap[b]?) : VarsAt lo hi w' v l := by
  obtain ⟨a, cap, h1, h2, h3⟩ := h
  refine ⟨a, cap, h1, h2, fun hp => ?_⟩
  obtain ⟨b, off, ha, hl, hh, hc⟩ := h3 hp
  exact ⟨b, off, ha, hl, hh, fun i hi => ⟨cell_same (hs b hl hh (cell_lt (hc i hi).1)) (hc i hi).1, cell_same (hs b hl hh (cell_lt (hc i hi).1)) (hc i hi).2⟩⟩
theorem VarsAt.stays {lo hi : Nat} {w w' : World} {v : Value} {l : List Va} (h : VarsAt lo hi w v l) (hb : Below w.heap.size w w') : VarsAt lo hi w' v l :=
  h.keep fun b _ _ hlt => hb.block b hlt

/-- Texts that are no longer than a text can be. -/
def WfVa (l : List Va) : Prop := ∀ i, i < l.length → (vaAt l i).1.size ≤ maxLen ∧ wf (vaAt l i).2
/-- Lists and texts of bounded length. -/
def SmallV (l : List Va) : Prop := l.length ≤ 1048576 ∧ ∀ i, i < l.length → (vaAt l i).1.size ≤ 1048576

end Go.Proofs.Ytjikmpdgednlaaa
