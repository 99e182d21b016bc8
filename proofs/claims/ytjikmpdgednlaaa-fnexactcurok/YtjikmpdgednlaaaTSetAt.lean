/- The two slices of a set. -/
import Derived.Test.YtjikmpdgednlaaaTData
namespace Go.Proofs.Ytjikmpdgednlaaa
open Go.RowKit
set_option linter.unusedVariables false

/-- The two slices of a set. -/
def SetAt (lo hi : Nat) (w : World) (v u : Value) (l : List Nd) (p : List Pr) : Prop := NodesAt lo hi w v l ∧ ProcsAt lo hi w u p
theorem SetAt.stays {lo hi : Nat} {w w' : World} {v u : Value} {l : List Nd} {p : List Pr} (h : SetAt lo hi w v u l p) (hb : Below w.heap.size w w') : SetAt lo hi w' v u l p := ⟨h.1.stays hb, h.2.stays hb⟩
theorem SetAt.forms {lo hi : Nat} {w : World} {v u : Value} {l : List Nd} {p : List Pr} (h : SetAt lo hi w v u l p) : ∃ a c b d, v = .slice a l.length c ∧ u = .slice b p.length d := by
  obtain ⟨⟨a, c, h1, _⟩, ⟨b, d, h2, _⟩⟩ := h
  exact ⟨a, c, b, d, h1, h2⟩

end Go.Proofs.Ytjikmpdgednlaaa
