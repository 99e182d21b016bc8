/- From the reading of a code of bytes to the plain data. -/
import Derived.Test.YtifdfelpbonckaaDraw0
import Derived.Test.YtifdfelpbonckaaOpen0
import Derived.ChangeOld
import Derived.Lib.SmallJoins
namespace Go.Proofs.Ytifdfelpbonckaa
open Go.ChangeShapes Go.WideShapes Go.ChangeAt Go.RowKit Go.Sort Go.Deep Go.Joins
set_option linter.unusedVariables false
set_option maxRecDepth 100000

theorem open_code {H : Type} {enc : TypeId × Value → H} {W : World} {r : Reach} {b0 : Nat} {v0 : Value} {d : DataW H} {p : List MemPlace} (hv : Value.okWide Try.prog W r b0 22 v0) (h : DataW.Trod enc Try.prog W 0 (fun _ => true) true 22 v0 d p) :
    ∃ a n cap, v0 = .slice a n cap ∧ BytesIn W a n := by
  have hce : Try.prog.cellsOf 5 = 1 := by kernel_rfl
  obtain ⟨a', n', c', rfl⟩ := okWide_slice Try.underlying22 hv
  obtain ⟨fuel, hf⟩ := h
  rcases open_slice Try.underlying22 hf with ⟨e, _⟩ | ⟨a, len, cap, m, n, D, Pl, e, _, hl, hm, hmm, _, hx⟩
  · simp [Value.cells] at e
    obtain ⟨rfl, rfl, rfl⟩ := e
    exact ⟨none, 0, 0, rfl, Nat.zero_le _, fun h => absurd h (Nat.lt_irrefl _)⟩
  · simp [Value.cells] at e
    obtain ⟨rfl, rfl, rfl⟩ := e
    obtain rfl : m = _ := by simpa using hmm
    have key : ∀ j, j < n' → ∃ x : Int, 0 ≤ x ∧ x ≤ 255 ∧ W.cell? (a.add j) = some (.int .u8 x) := fun j hj => by
      obtain ⟨cs', h1, h2⟩ := hx j (by omega)
      rw [hce] at h1
      obtain ⟨_, hlen, hcell⟩ := World.cells?_some h1
      obtain ⟨x, e1, _, w1⟩ := DataW.trod_int Try.underlying5 h2
      subst e1
      have e0 := hcell 0 (by omega)
      rw [add_add] at e0
      refine ⟨x, ?_, ?_, by simpa using e0⟩
      · simp [Lit.wf, IntKind.min, IntKind.max, IntKind.signed, IntKind.bits] at w1; omega
      · simp [Lit.wf, IntKind.min, IntKind.max, IntKind.signed, IntKind.bits] at w1; omega
    refine ⟨some a, n', _, rfl, by unfold maxLen at *; omega, fun hp => ?_⟩
    obtain ⟨x, _, _, e0⟩ := key 0 hp
    have ha := spot_plain e0
    refine ⟨a.block, a.off, by rw [← ha], by have := cell_lt e0; simpa [Addr.add] using this, fun j hj => ?_⟩
    obtain ⟨x, x0, x1, ex⟩ := key j hj
    rw [add_plain ex] at ex
    exact ⟨x, x0, x1, ex⟩

end Go.Proofs.Ytifdfelpbonckaa
