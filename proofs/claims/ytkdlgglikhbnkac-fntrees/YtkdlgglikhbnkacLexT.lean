/- Words in memory, element by element. -/
import Derived.Test.YtkdlgglikhbnkacLex5
namespace Go.Proofs.Ytkdlgglikhbnkac
open Go.ChangeShapes Go.WideShapes Go.ChangeAt Go.RowKit
set_option linter.unusedVariables false
set_option maxRecDepth 100000

def tk0 : Tk := ⟨0, empS, 0, 0⟩
def tkAt (l : List Tk) (i : Nat) : Tk := l.getD i tk0
theorem tcells_get : ∀ (l : List Tk) (i : Nat), i < l.length → (tcells l)[i * 4]? = some (.int .i64 (tkAt l i).k) ∧ (tcells l)[i * 4 + 1]? = some (.string (tkAt l i).s) ∧ (tcells l)[i * 4 + 2]? = some (.int .i64 (tkAt l i).n) ∧ (tcells l)[i * 4 + 3]? = some (.int .i64 (tkAt l i).p)
  | [], i, h => absurd h (Nat.not_lt_zero _)
  | x :: q, 0, _ => by simp [tcells, tcell, tkAt]
  | x :: q, i + 1, h => by
    obtain ⟨h1, h2, h3, h4⟩ := tcells_get q i (by simpa using h)
    have e : ∀ j, (tcells (x :: q))[j + 4]? = (tcells q)[j]? := fun j => by
      show (tcell x ++ tcells q)[j + 4]? = _
      rw [List.getElem?_append_right (by simp [tcell])]
      simp [tcell]
    have a : tkAt (x :: q) (i + 1) = tkAt q i := by simp [tkAt]
    rw [a]
    refine ⟨?_, ?_, ?_, ?_⟩
    · rw [show (i + 1) * 4 = i * 4 + 4 by omega, e, h1]
    · rw [show (i + 1) * 4 + 1 = i * 4 + 1 + 4 by omega, e, h2]
    · rw [show (i + 1) * 4 + 2 = i * 4 + 2 + 4 by omega, e, h3]
    · rw [show (i + 1) * 4 + 3 = i * 4 + 3 + 4 by omega, e, h4]
theorem tcells_length (l : List Tk) : (tcells l).length = l.length * 4 := by
  induction l with
  | nil => rfl
  | cons x q ih => simp only [tcells, List.flatMap_cons, List.length_append] at *; rw [ih]; simp [tcell]; omega

/-- The words l lie in block b. -/
def ToksIn (w : World) (b : Nat) (l : List Tk) : Prop := ∀ i, i < l.length → w.cell? ⟨b, i * 4, none⟩ = some (.int .i64 (tkAt l i).k) ∧ w.cell? ⟨b, i * 4 + 1, none⟩ = some (.string (tkAt l i).s) ∧ w.cell? ⟨b, i * 4 + 2, none⟩ = some (.int .i64 (tkAt l i).n) ∧ w.cell? ⟨b, i * 4 + 3, none⟩ = some (.int .i64 (tkAt l i).p)

theorem toks_of_owns {w : World} {base : Nat} {v : Value} {l : List Tk} (h : w.ownsRow base 59 4 v l.length (tcells l)) (hl : 0 < l.length) : ∃ g cap, v = .slice (some ⟨g, 0, none⟩) l.length cap ∧ base ≤ g ∧ g < w.heap.size ∧ ToksIn w g l := by
  obtain ⟨g, cap, rfl, hb, hg⟩ := h.form hl
  refine ⟨g, cap, rfl, hb, hg, fun i hi => ?_⟩
  obtain ⟨h1, h2, h3, h4⟩ := tcells_get l i hi
  refine ⟨?_, ?_, ?_, ?_⟩
  · rw [h.cellAt _ (by omega), h1]
  · rw [h.cellAt _ (by omega), h2]
  · rw [h.cellAt _ (by omega), h3]
  · rw [h.cellAt _ (by omega), h4]

theorem ToksIn.stays {w w' : World} {g : Nat} {l : List Tk} (h : ToksIn w g l) (hb : Below w.heap.size w w') (hg : g < w.heap.size) : ToksIn w' g l := fun i hi => by
  obtain ⟨h1, h2, h3, h4⟩ := h i hi
  refine ⟨?_, ?_, ?_, ?_⟩
  all_goals (rw [hb.cell (by exact hg)]; assumption)

/-- The slice v holds the words l. -/
def TokV (w : World) (v : Value) (l : List Tk) : Prop := ∃ a cap, v = .slice a l.length cap ∧ l.length ≤ 6000 ∧ (0 < l.length → ∃ g, a = some ⟨g, 0, none⟩ ∧ g < w.heap.size ∧ ToksIn w g l)
theorem TokV.stays {w w' : World} {v : Value} {l : List Tk} (h : TokV w v l) (hb : Below w.heap.size w w') : TokV w' v l := by
  obtain ⟨a, cap, h1, h2, h3⟩ := h
  refine ⟨a, cap, h1, h2, fun hp => ?_⟩
  obtain ⟨g, h4, h5, h6⟩ := h3 hp
  exact ⟨g, h4, Nat.lt_of_lt_of_le h5 hb.size, h6.stays hb h5⟩
theorem tokV_of_owns {w : World} {base : Nat} {v : Value} {l : List Tk} (h : w.ownsRow base 59 4 v l.length (tcells l)) (hl : l.length ≤ 6000) : TokV w v l := by
  by_cases hp : 0 < l.length
  · obtain ⟨g, cap, rfl, _, hg, hT⟩ := toks_of_owns h hp
    exact ⟨_, _, rfl, hl, fun _ => ⟨g, rfl, hg, hT⟩⟩
  · obtain ⟨a, n, c, rfl, e⟩ : ∃ a n c, v = .slice a n c ∧ n = l.length := by
      rcases h.2 with ⟨h1, h2⟩ | ⟨g, cap, cur, h1, _⟩
      · exact ⟨_, _, _, h1, h2.symm⟩
      · exact ⟨_, _, _, h1, rfl⟩
    subst e
    exact ⟨_, _, rfl, hl, fun h => absurd h hp⟩

end Go.Proofs.Ytkdlgglikhbnkac
