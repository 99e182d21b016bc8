/- Blocks and loops among the nodes of a tree set. -/
import Derived.Test.YtjikmpdgednlaaaC1
import Derived.Test.YtjikmpdgednlaaaZTree
namespace Go.Proofs.Ytjikmpdgednlaaa
open Go.ChangeShapes Go.WideShapes Go.ChangeAt Go.RowKit
set_option linter.unusedVariables false
set_option maxRecDepth 100000
attribute [local go_sem ↓] Go.wp_at_zero Go.wp_at_succ

/-- Node b is a block or a loop. -/
def isFr (l : List Nd) (b : Int) : Prop := (ndAt l b.toNat).k = 27 ∨ (ndAt l b.toNat).k = 24

theorem isFr_kid {l : List Nd} (hn : NodesOk l) {i : Nat} {b : Int} (hi : i < l.length) (h23 : (ndAt l i).k = 23) (hb : isFr l b) : iAt (ndAt l i).kids 0 ≠ b := by
  have h := hn i hi
  have h0 := h.lo
  have e : manyI 23 = (2, 3) := by decide
  rw [h23, e] at h0
  have h1 : 0 < (ndAt l i).kids.length := by simp only at h0; omega
  obtain ⟨x, e, _, _, hs⟩ := hn.kid hi h1
  intro hx
  rw [e] at hx
  subst hx
  rw [h23] at hs
  have e2 : kidI 23 0 = 0 := by decide
  rw [e2] at hs
  rcases hb with hb | hb <;> rw [Int.toNat_natCast] at hb <;> rw [hb] at hs <;> revert hs <;> decide

theorem isFr_for {l : List Nd} (hn : NodesOk l) {i : Nat} (hi : i < l.length) (h24 : (ndAt l i).k = 24) : (ndAt l i).kids.length = 1 := by
  have h := hn i hi
  have h0 := h.lo
  have h1 := h.hi
  have e : manyI 24 = (1, 1) := by decide
  rw [h24, e] at h0 h1
  simp at h0 h1
  omega

/-- Frame i of the run. -/
def stAt (l : List Nd) (body : Int) (fs : List Vr) (i : Nat) : Prop := frOk l (vAt fs i) ∧ (i = 0 → (vAt fs i).1 = body) ∧ (0 < i → underF l (vAt fs (i - 1)) (vAt fs i).1)
/-- The frames of a run of the procedure of that body. -/
def stackP (l : List Nd) (body : Int) (fs : List Vr) : Prop := fs.length ≤ 200 ∧ ∀ i, i < fs.length → stAt l body fs i

theorem frOk_isFr {l : List Nd} {f : Vr} (h : frOk l f) : isFr l f.1 := by
  obtain ⟨_, _, _, h⟩ := h
  rcases h with h | h
  · exact .inl h.1
  · exact .inr h.1

end Go.Proofs.Ytjikmpdgednlaaa
