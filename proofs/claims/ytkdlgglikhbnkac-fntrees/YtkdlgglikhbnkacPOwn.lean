/- Nodes that are being built: a row of nodes that the program owns, each with its list of kids in a block of its own. -/
import Derived.Test.YtkdlgglikhbnkacPFun
import Derived.Test.YtkdlgglikhbnkacRowOf
import Derived.Deep.OwnRows
import Derived.Deep.AppendLies
namespace Go.Proofs.Ytkdlgglikhbnkac
open Go.ChangeShapes Go.WideShapes Go.ChangeAt Go.RowKit
set_option linter.unusedVariables false
set_option maxRecDepth 100000

abbrev Qn := Nd × Value
def qn0 : Qn := (nd0, .slice none 0 0)
def qnAt (q : List Qn) (i : Nat) : Qn := q.getD i qn0
def ncell (x : Qn) : List Value := [.int .i64 x.1.k, .string x.1.s, .int .i64 x.1.n, x.2]
def ncells (q : List Qn) : List Value := q.flatMap ncell
def qnds (q : List Qn) : List Nd := q.map (·.1)
def icells (l : List Int) : List Value := l.map (Value.int .i64)

theorem ncells_length (q : List Qn) : (ncells q).length = q.length * 4 := by
  induction q with
  | nil => rfl
  | cons x q ih => simp only [ncells, List.flatMap_cons, List.length_append] at *; rw [ih]; simp [ncell]; omega
theorem icells_length (l : List Int) : (icells l).length = l.length := by simp [icells]
theorem icells_snoc (l : List Int) (x : Int) : icells (l ++ [x]) = icells l ++ [.int .i64 x] := by simp [icells]
theorem icells_get (l : List Int) {i : Nat} (h : i < l.length) : (icells l)[i]? = some (.int .i64 (iAt l i)) := by simp [icells, iAt, h]
theorem ncells_snoc (q : List Qn) (x : Qn) : ncells (q ++ [x]) = ncells q ++ ncell x := by simp [ncells]
theorem qnds_length (q : List Qn) : (qnds q).length = q.length := by simp [qnds]
theorem qnds_snoc (q : List Qn) (x : Qn) : qnds (q ++ [x]) = qnds q ++ [x.1] := by simp [qnds]
theorem qnds_at (q : List Qn) {i : Nat} (hi : i < q.length) : ndAt (qnds q) i = (qnAt q i).1 := by simp [ndAt, qnAt, qnds, hi]
theorem qnAt_snoc_lt (q : List Qn) (x : Qn) {i : Nat} (hi : i < q.length) : qnAt (q ++ [x]) i = qnAt q i := by simp [qnAt, List.getElem?_append_left hi]
theorem qnAt_snoc_eq (q : List Qn) (x : Qn) : qnAt (q ++ [x]) q.length = x := by simp [qnAt]

theorem ncells_get : ∀ (q : List Qn) (i : Nat), i < q.length → (ncells q)[i * 4]? = some (.int .i64 (qnAt q i).1.k) ∧ (ncells q)[i * 4 + 1]? = some (.string (qnAt q i).1.s) ∧ (ncells q)[i * 4 + 2]? = some (.int .i64 (qnAt q i).1.n) ∧ (ncells q)[i * 4 + 3]? = some (qnAt q i).2
  | [], i, h => absurd h (Nat.not_lt_zero _)
  | x :: q, 0, _ => by simp [ncells, ncell, qnAt]
  | x :: q, i + 1, h => by
    obtain ⟨h1, h2, h3, h4⟩ := ncells_get q i (by simpa using h)
    have e : ∀ j, (ncells (x :: q))[j + 4]? = (ncells q)[j]? := fun j => by
      show (ncell x ++ ncells q)[j + 4]? = _
      rw [List.getElem?_append_right (by simp [ncell])]
      simp [ncell]
    have a : qnAt (x :: q) (i + 1) = qnAt q i := by simp [qnAt]
    rw [a]
    refine ⟨?_, ?_, ?_, ?_⟩
    · rw [show (i + 1) * 4 = i * 4 + 4 by omega, e, h1]
    · rw [show (i + 1) * 4 + 1 = i * 4 + 1 + 4 by omega, e, h2]
    · rw [show (i + 1) * 4 + 2 = i * 4 + 2 + 4 by omega, e, h3]
    · rw [show (i + 1) * 4 + 3 = i * 4 + 3 + 4 by omega, e, h4]

theorem own_keep {w w' : World} {base : Nat} {e : TypeId} {size : Nat} {v : Value} {n : Nat} {xs : List Value} (h : w.ownsRow base e size v n xs) (hk : ∀ g, v.ownBlock = some g → g < w.heap.size → w'.heap[g]? = w.heap[g]?) : w'.ownsRow base e size v n xs := by
  obtain ⟨h1, h2⟩ := h
  refine ⟨h1, ?_⟩
  rcases h2 with h2 | ⟨g, cap, cur, rfl, h4, h5, h6⟩
  · exact .inl h2
  · exact .inr ⟨g, cap, cur, rfl, h4, (hk g rfl (Array.getElem?_eq_some_iff.1 h5).1).trans h5, h6⟩
theorem own_lt {w : World} {base : Nat} {e : TypeId} {size : Nat} {v : Value} {n : Nat} {xs : List Value} (h : w.ownsRow base e size v n xs) {g : Nat} (hg : v.ownBlock = some g) : base ≤ g ∧ g < w.heap.size := h.lt g hg
theorem own_slice {w : World} {base : Nat} {e : TypeId} {size : Nat} {v : Value} {n : Nat} {xs : List Value} (h : w.ownsRow base e size v n xs) : ∃ a c, v = .slice a n c := by
  rcases h.2 with ⟨h1, h2⟩ | ⟨g, cap, cur, h1, _⟩
  · exact ⟨_, _, by rw [h1, h2]⟩
  · exact ⟨_, _, h1⟩

/-- The nodes that are being built. -/
structure OwnN (base : Nat) (w : World) (nv : Value) (q : List Qn) : Prop where
  row : w.ownsRow base 33 4 nv q.length (ncells q)
  lists : ∀ i, i < q.length → w.ownsRow base 3 1 (qnAt q i).2 (qnAt q i).1.kids.length (icells (qnAt q i).1.kids)
  apart : ∀ i, i < q.length → ∀ g, (qnAt q i).2.ownBlock = some g → nv.ownBlock ≠ some g ∧ ∀ j, j < q.length → j ≠ i → (qnAt q j).2.ownBlock ≠ some g

theorem OwnN.nil (base : Nat) (w : World) : OwnN base w (.slice none 0 0) [] :=
  ⟨World.ownsRow_nil _ _ _ _, fun i hi => absurd hi (Nat.not_lt_zero _), fun i hi => absurd hi (Nat.not_lt_zero _)⟩
theorem OwnN.keep {base : Nat} {w w' : World} {nv : Value} {q : List Qn} (h : OwnN base w nv q) (hk : ∀ g, (nv.ownBlock = some g ∨ ∃ i, i < q.length ∧ (qnAt q i).2.ownBlock = some g) → g < w.heap.size → w'.heap[g]? = w.heap[g]?) : OwnN base w' nv q :=
  ⟨own_keep h.row fun g hg hl => hk g (.inl hg) hl, fun i hi => own_keep (h.lists i hi) fun g hg hl => hk g (.inr ⟨i, hi, hg⟩) hl, h.apart⟩
theorem OwnN.stays {base : Nat} {w w' : World} {nv : Value} {q : List Qn} (h : OwnN base w nv q) (hb : Below w.heap.size w w') : OwnN base w' nv q := h.keep fun g _ hl => hb.block g hl

/-- One node more: its kids lie in lv, a row of its own that is no part of the others. -/
theorem OwnN.snoc {base : Nat} {w w6 : World} {nv nv' lv : Value} {q : List Qn} {c : Nd} (h : OwnN base w nv q) (hl : w.ownsRow base 3 1 lv c.kids.length (icells c.kids))
    (hlg : ∀ g, lv.ownBlock = some g → nv.ownBlock ≠ some g ∧ ∀ j, j < q.length → (qnAt q j).2.ownBlock ≠ some g)
    (hrow : w6.ownsRow base 33 4 nv' (q.length + 1) (ncells q ++ ncell (c, lv))) (hk : ∀ g, g < w.heap.size → nv.ownBlock ≠ some g → w6.heap[g]? = w.heap[g]?) (hov : ∀ g, nv'.ownBlock = some g → nv.ownBlock = some g ∨ w.heap.size ≤ g) :
    OwnN base w6 nv' (q ++ [(c, lv)]) := by
  have hlt : ∀ g, lv.ownBlock = some g → g < w.heap.size := fun g hg => (own_lt hl hg).2
  have hLt : ∀ i, i < q.length → ∀ g, (qnAt q i).2.ownBlock = some g → g < w.heap.size := fun i hi g hg => (own_lt (h.lists i hi) hg).2
  have hlen : (q ++ [(c, lv)]).length = q.length + 1 := by simp
  refine ⟨by rw [hlen, ncells_snoc]; exact hrow, fun i hi => ?_, fun i hi g hg => ?_⟩
  · rw [hlen] at hi
    by_cases e : i = q.length
    · subst e
      rw [qnAt_snoc_eq]
      exact own_keep hl fun g hg hgl => hk g hgl (hlg g hg).1
    · have hi' : i < q.length := by omega
      rw [qnAt_snoc_lt _ _ hi']
      exact own_keep (h.lists i hi') fun g hg hgl => hk g hgl (h.apart i hi' g hg).1
  · rw [hlen] at hi ⊢
    by_cases e : i = q.length
    · subst e
      rw [qnAt_snoc_eq] at hg
      have g2 := hlt g hg
      refine ⟨fun e => ?_, fun j hj hne e => ?_⟩
      · rcases hov g e with e | e
        · exact (hlg g hg).1 e
        · omega
      · rw [qnAt_snoc_lt _ _ (by omega)] at e
        exact (hlg g hg).2 j (by omega) e
    · have hi' : i < q.length := by omega
      rw [qnAt_snoc_lt _ _ hi'] at hg
      have g1 := hLt i hi' g hg
      obtain ⟨a1, a2⟩ := h.apart i hi' g hg
      refine ⟨fun e' => ?_, fun j hj hne e' => ?_⟩
      · rcases hov g e' with e' | e'
        · exact a1 e'
        · omega
      · by_cases ej : j = q.length
        · subst ej
          rw [qnAt_snoc_eq] at e'
          exact (hlg g e').2 i hi' hg
        · rw [qnAt_snoc_lt _ _ (by omega)] at e'
          exact a2 j (by omega) hne e'

end Go.Proofs.Ytkdlgglikhbnkac
