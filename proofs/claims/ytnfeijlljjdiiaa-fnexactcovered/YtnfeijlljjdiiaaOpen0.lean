/- Addresses of cells that are read. -/
import Derived.Test.YtnfeijlljjdiiaaRows
import Derived.Test.YtnfeijlljjdiiaaData
import Derived.Deep.SlicePairs
import Derived.Lib.SmallJoins
namespace Go.Proofs.Ytnfeijlljjdiiaa
open Go.ChangeShapes Go.WideShapes Go.ChangeAt Go.RowKit Go.Deep Go.Joins
set_option linter.unusedVariables false

theorem add_plain {w : World} {a : Addr} {j : Nat} {v : Value} (h : w.cell? (a.add j) = some v) : a.add j = ⟨a.block, a.off + j, none⟩ := by
  have hs := World.cell?_spot h
  unfold Addr.add at hs ⊢
  obtain ⟨b, o, s⟩ := a
  by_cases hj : j = 0
  · simp [hj] at hs ⊢; exact hs
  · simp [hj] at hs ⊢; try exact hs

theorem spot_plain {w : World} {a : Addr} {v : Value} (h : w.cell? (a.add 0) = some v) : a = ⟨a.block, a.off, none⟩ := by
  have := add_plain h
  simpa [Addr.add] using this

end Go.Proofs.Ytnfeijlljjdiiaa
