/- What Parse answers, as a set that is read. -/
import Derived.Test.YtkdlgglikhbnkacTSetAt
import Derived.Test.YtkdlgglikhbnkacPParse4
namespace Go.Proofs.Ytkdlgglikhbnkac
open Go.ChangeShapes Go.WideShapes Go.ChangeAt Go.RowKit
set_option linter.unusedVariables false
set_option maxRecDepth 100000
attribute [local go_sem ↓] Go.wp_at_zero Go.wp_at_succ

theorem own_max {w : World} {base : Nat} {E : TypeId} {sz : Nat} {v : Value} {n : Nat} {xs : List Value} (h : w.ownsRow base E sz v n xs) : n ≤ maxLen := by
  rcases h.2 with ⟨_, h2⟩ | ⟨g, cap, cur, _, _, _, h6, h7, _⟩
  · omega
  · omega
theorem scells_get (l : List ByteArray) {i : Nat} (h : i < l.length) : (scells l)[i]? = some (.string (sAt l i)) := by simp [scells, sAt, h]
theorem pcells_get : ∀ (q : List Qp) (i : Nat), i < q.length → (pcells q)[i * 3]? = some (.string (qpAt q i).1.name) ∧ (pcells q)[i * 3 + 1]? = some (qpAt q i).2 ∧ (pcells q)[i * 3 + 2]? = some (.int .i64 (qpAt q i).1.body)
  | [], i, h => absurd h (Nat.not_lt_zero _)
  | x :: q, 0, _ => by simp [pcells, pcell, qpAt]
  | x :: q, i + 1, h => by
    obtain ⟨h1, h2, h3⟩ := pcells_get q i (by simpa using h)
    have e : ∀ j, (pcells (x :: q))[j + 3]? = (pcells q)[j]? := fun j => by
      show (pcell x ++ pcells q)[j + 3]? = _
      rw [List.getElem?_append_right (by simp [pcell])]
      simp [pcell]
    have a : qpAt (x :: q) (i + 1) = qpAt q i := by simp [qpAt]
    rw [a]
    refine ⟨?_, ?_, ?_⟩
    · rw [show (i + 1) * 3 = i * 3 + 3 by omega, e, h1]
    · rw [show (i + 1) * 3 + 1 = i * 3 + 1 + 3 by omega, e, h2]
    · rw [show (i + 1) * 3 + 2 = i * 3 + 2 + 3 by omega, e, h3]

theorem intsAt_own {w : World} {base : Nat} {v : Value} {l : List Int} (h : w.ownsRow base 3 1 v l.length (icells l)) : IntsAt base w.heap.size w v l := by
  obtain ⟨a, c, hv⟩ := own_slice h
  refine ⟨a, c, hv, own_max h, fun hp => ?_⟩
  obtain ⟨g, cap, e, hb, hg⟩ := h.form hp
  subst hv
  cases e
  refine ⟨g, 0, rfl, hb, hg, fun i hi => ?_⟩
  rw [Nat.zero_add, h.cellAt i (by omega), icells_get l hi]
theorem textsAt_own {w : World} {base : Nat} {v : Value} {l : List ByteArray} (h : w.ownsRow base 9 1 v l.length (scells l)) : TextsAt base w.heap.size w v l := by
  obtain ⟨a, c, hv⟩ := own_slice h
  refine ⟨a, c, hv, own_max h, fun hp => ?_⟩
  obtain ⟨g, cap, e, hb, hg⟩ := h.form hp
  subst hv
  cases e
  refine ⟨g, 0, rfl, hb, hg, fun i hi => ?_⟩
  rw [Nat.zero_add, h.cellAt i (by omega), scells_get l hi]
theorem nodesAt_own {w : World} {base : Nat} {v : Value} {q : List Qn} (h : OwnN base w v q) : NodesAt base w.heap.size w v (qnds q) := by
  obtain ⟨a, c, hv⟩ := own_slice h.row
  refine ⟨a, c, by rw [qnds_length]; exact hv, by rw [qnds_length]; exact own_max h.row, fun hp => ?_⟩
  rw [qnds_length] at hp ⊢
  obtain ⟨g, cap, e, hb, hg⟩ := h.row.form hp
  have hr := h.row
  subst hv
  cases e
  refine ⟨g, 0, rfl, hb, hg, fun i hi => ?_⟩
  obtain ⟨c0, c1, c2, c3⟩ := ncells_get q i hi
  rw [qnds_at q hi, Nat.zero_add]
  obtain ⟨ka, kc, hk⟩ := own_slice (h.lists i hi)
  refine ⟨by rw [hr.cellAt _ (by omega), c0], by rw [hr.cellAt _ (by omega), c1], by rw [hr.cellAt _ (by omega), c2], ka, kc, by rw [hr.cellAt _ (by omega), c3, hk], ?_⟩
  rw [← hk]
  exact intsAt_own (h.lists i hi)
theorem procsAt_own {w : World} {base : Nat} {v : Value} {q : List Qp} (h : OwnP base w v q) : ProcsAt base w.heap.size w v (qprs q) := by
  obtain ⟨a, c, hv⟩ := own_slice h.row
  refine ⟨a, c, by rw [qprs_length]; exact hv, by rw [qprs_length]; exact own_max h.row, fun hp => ?_⟩
  rw [qprs_length] at hp ⊢
  obtain ⟨g, cap, e, hb, hg⟩ := h.row.form hp
  have hr := h.row
  subst hv
  cases e
  refine ⟨g, 0, rfl, hb, hg, fun i hi => ?_⟩
  obtain ⟨c0, c1, c2⟩ := pcells_get q i hi
  rw [qprs_at q hi, Nat.zero_add]
  obtain ⟨ka, kc, hk⟩ := own_slice (h.lists i hi)
  refine ⟨by rw [hr.cellAt _ (by omega), c0], ⟨ka, kc, by rw [hr.cellAt _ (by omega), c1, hk], ?_⟩, by rw [hr.cellAt _ (by omega), c2]⟩
  rw [← hk]
  exact textsAt_own (h.lists i hi)

end Go.Proofs.Ytkdlgglikhbnkac
