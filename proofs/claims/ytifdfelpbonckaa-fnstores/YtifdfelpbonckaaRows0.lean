/- Rows that a call owns. -/
import Derived.Test.YtifdfelpbonckaaOwn0
import Derived.Test.YtifdfelpbonckaaRead
import Derived.Deep.AppendLies
namespace Go.Proofs.Ytifdfelpbonckaa
open Go.ChangeShapes Go.WideShapes Go.ChangeAt Go.RowKit Go.Sort
set_option linter.unusedVariables false
set_option maxRecDepth 100000
attribute [local go_sem ↓] Go.wp_at_zero Go.wp_at_succ

structure Rw where
  t : Int
  r : Int
  v : Int
def rw0 : Rw := ⟨0, 0, 0⟩
def rAt (l : List Rw) (i : Nat) : Rw := l.getD i rw0
def cells3 (x : Rw) : List Value := [.int .i64 x.t, .int .i64 x.r, .int .i64 x.v]
def flat (l : List Rw) : List Value := l.flatMap cells3

theorem flat_length (l : List Rw) : (flat l).length = l.length * 3 := by
  induction l with
  | nil => rfl
  | cons x l ih => simp only [flat, List.flatMap_cons, List.length_append, List.length_cons] at *; rw [ih]; simp [cells3]; omega
theorem flat_snoc (l : List Rw) (x : Rw) : flat (l ++ [x]) = flat l ++ cells3 x := by simp [flat]
theorem flat_get : ∀ (l : List Rw) (i : Nat), i < l.length → (flat l)[i * 3]? = some (.int .i64 (rAt l i).t) ∧ (flat l)[i * 3 + 1]? = some (.int .i64 (rAt l i).r) ∧ (flat l)[i * 3 + 2]? = some (.int .i64 (rAt l i).v)
  | [], i, h => absurd h (Nat.not_lt_zero _)
  | x :: l, 0, h => by simp [flat, cells3, rAt]
  | x :: l, i + 1, h => by
    obtain ⟨h1, h2, h3⟩ := flat_get l i (by simpa using h)
    have e : flat (x :: l) = .int .i64 x.t :: .int .i64 x.r :: .int .i64 x.v :: flat l := by simp [flat, cells3]
    rw [e]
    refine ⟨?_, ?_, ?_⟩
    · rw [show (i + 1) * 3 = i * 3 + 1 + 1 + 1 by omega]; simpa [rAt] using h1
    · rw [show (i + 1) * 3 + 1 = i * 3 + 1 + 1 + 1 + 1 by omega]; simpa [rAt] using h2
    · rw [show (i + 1) * 3 + 2 = i * 3 + 2 + 1 + 1 + 1 by omega]; simpa [rAt] using h3

/-- The slice v holds the rows l, in a block of its own from base on. -/
def OwnR (base : Nat) (w : World) (v : Value) (l : List Rw) : Prop :=
  (v = .slice none 0 0 ∧ l = []) ∨ ∃ g cap f, v = .slice (some ⟨g, 0, none⟩) l.length cap ∧ base ≤ g ∧ RowOf w g 38 (l.length * 3) f ∧ ∀ i, i < l.length → f (i * 3) = .int .i64 (rAt l i).t ∧ f (i * 3 + 1) = .int .i64 (rAt l i).r ∧ f (i * 3 + 2) = .int .i64 (rAt l i).v

theorem OwnR.of_ownsRow {base : Nat} {w : World} {v : Value} {l : List Rw} (h : w.ownsRow base 38 3 v l.length (flat l)) : OwnR base w v l := by
  obtain ⟨h1, h2⟩ := h
  rcases h2 with ⟨rfl, h3⟩ | ⟨g, cap, cur, rfl, h4, h5, h6, h7, h8, h9⟩
  · exact .inl ⟨rfl, by simpa using h3⟩
  · have hget : ∀ j, j < l.length * 3 → cur[j]? = (flat l)[j]? := fun j hj => by
      rw [← h9, List.getElem?_take, if_pos hj]; simp
    refine .inr ⟨g, cap, fun j => ((flat l)[j]?).getD (.int .i64 0), rfl, h4, ⟨cur, h5, by rw [h8]; exact Nat.mul_le_mul_right 3 h6, fun j hj => ?_⟩, fun i hi => ?_⟩
    · rw [hget j hj]
      have : j < (flat l).length := by rw [flat_length]; exact hj
      simp [List.getElem?_eq_getElem this]
    · obtain ⟨g1, g2, g3⟩ := flat_get l i hi
      simp only [g1, g2, g3, Option.getD_some]
      exact ⟨trivial, trivial, trivial⟩

theorem OwnR.keep {base : Nat} {w w' : World} {v : Value} {l : List Rw} (h : OwnR base w v l) (hs : ∀ k, base ≤ k → k < w.heap.size → w'.heap[k]? = w.heap[k]?) : OwnR base w' v l := by
  rcases h with h | ⟨g, cap, f, h1, h2, h3, h4⟩
  · exact .inl h
  · exact .inr ⟨g, cap, f, h1, h2, h3.of_block (hs g h2 h3.lt), h4⟩
theorem OwnR.stays {base : Nat} {w w' : World} {v : Value} {l : List Rw} (h : OwnR base w v l) (hb : Below w.heap.size w w') : OwnR base w' v l := h.keep fun k _ hk => hb.block k hk

end Go.Proofs.Ytifdfelpbonckaa
