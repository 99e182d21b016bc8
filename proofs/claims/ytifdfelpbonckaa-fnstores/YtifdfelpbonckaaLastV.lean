/- The last version of a list, as the program reads it. -/
import Derived.Test.YtifdfelpbonckaaLast1
namespace Go.Proofs.Ytifdfelpbonckaa
open Go.ChangeShapes Go.WideShapes Go.ChangeAt Go.RowKit Go.Sort
set_option linter.unusedVariables false
set_option maxRecDepth 100000

def lastH (l : List Vr) : Int := (vAt l (l.length - 1)).1
theorem verAt_last (v : Value) (l : List Vr) (w : World) {lo hi : Nat} (hl : VersAt lo hi w v l) (ho : versOk l) :
    Calls Try.prog 47 #[v, .int .i64 1000000] w fun e w' => e = .returned (.agg #[.int .i64 (lastH l), .int .i64 (vAt l (l.length - 1)).2]) ∧ Below w.heap.size w w' := by
  refine (verAt_any v l 1000000 w hl).mono ?_
  rintro e w' ⟨k, rfl, hk, hb⟩
  obtain ⟨h1, h2, h3⟩ := hk
  have e : k = l.length := by
    rcases Nat.lt_or_ge k l.length with hlt | hge
    · have := h3 hlt
      have := (ho.2.2 k hlt).2.1
      omega
    · omega
  subst e
  have hp := ho.1
  refine ⟨?_, hb⟩
  simp only [rdV, lastH]
  rw [if_neg (by omega)]


end Go.Proofs.Ytifdfelpbonckaa
