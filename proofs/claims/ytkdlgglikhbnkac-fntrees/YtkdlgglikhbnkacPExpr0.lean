/- What a part of reading that answers a node leaves; nodes with new lists of kids. -/
import Derived.Test.YtkdlgglikhbnkacPPut
namespace Go.Proofs.Ytkdlgglikhbnkac
open Go.ChangeShapes Go.WideShapes Go.ChangeAt Go.RowKit
set_option linter.unusedVariables false
set_option maxRecDepth 100000
attribute [local go_sem ↓] Go.wp_at_zero Go.wp_at_succ

/-- Behind a part that began at word i0 of reader rb in world w: the reader stands at word i with nodes ns. -/
def Went (base rb : Nat) (T : List Tk) (wv : Value) (en : Nat) (w : World) (nv : Value) (q : List Qn) (d i0 i : Nat) (ns : List Nd) (w' : World) : Prop :=
  ∃ nv' q', Rd base rb T wv en w' i d nv' q' ∧ qnds q' = ns ∧ Mv rb w nv q w' nv' q' ∧ i0 ≤ i ∧ q'.length + i0 ≤ q.length + i

def NRet (base rb : Nat) (T : List Tk) (wv : Value) (en : Nat) (w : World) (nv : Value) (q : List Qn) (d i0 : Nat) (r : PR Nat) (e : Ending) (w' : World) : Prop := match r with
  | .ok k i ns => e = .returned (.int .i64 (k : Int)) ∧ Went base rb T wv en w nv q d i0 i ns w'
  | .bad i => e = gives T en i ∧ i ≤ T.length ∧ Below base w w'

theorem owns_fresh (w : World) (base : Nat) (l : List Int) (hb : base ≤ w.heap.size) (hn : l.length ≤ maxLen) :
    (w.alloc (Obj.cells (icells l).toArray 3)).ownsRow base 3 1 (.slice (some ⟨w.heap.size, 0, none⟩) l.length l.length) l.length (icells l) :=
  ⟨by simp [icells_length], .inr ⟨w.heap.size, l.length, (icells l).toArray, rfl, hb, heap_alloc_new w _, Nat.le_refl _, hn, by simp [icells_length], by simp [← icells_length l]⟩⟩

theorem put_fresh {base rb : Nat} {T : List Tk} {wv : Value} {en : Nat} {w : World} {i d : Nat} {nv : Value} {q : List Qn} (h : Rd base rb T wv en w i d nv q) (c : Nd) (hroom : q.length + 1 ≤ i) (hk : c.kids.length ≤ 6000) :
    Calls Try.prog 68 #[.pointer (some ⟨rb, 0, none⟩), .agg #[.int .i64 c.k, .string c.s, .int .i64 c.n, .slice (some ⟨w.heap.size, 0, none⟩) c.kids.length c.kids.length]] (w.alloc (Obj.cells (icells c.kids).toArray 3)) fun e w' =>
      e = .returned (.int .i64 ((qnds q).length : Int)) ∧ ∃ nv' q', Rd base rb T wv en w' i d nv' q' ∧ qnds q' = qnds q ++ [c] ∧ Mv rb w nv q w' nv' q' ∧ q'.length = q.length + 1 := by
  have bA : Below w.heap.size w (w.alloc (Obj.cells (icells c.kids).toArray 3)) := (Below.refl _ _).alloc (Nat.le_refl _) _
  refine (put_any (h.stays bA) c _ _ (owns_fresh w base c.kids h.base_le (by unfold maxLen; omega)) (fun g hg => ?_) hroom).mono ?_
  · have hg' : some w.heap.size = some g := hg
    injection hg' with hg'
    subst hg'
    refine ⟨by have := h.row.lt; omega, fun e => ?_, fun j hj e => ?_⟩
    · have := (own_lt h.own.row e).2; omega
    · have := (own_lt (h.own.lists j hj) e).2; omega
  · rintro e w' ⟨rfl, nv', hR, hF⟩
    refine ⟨by rw [qnds_length], nv', _, hR, by rw [qnds_snoc], (Mv.of_below bA).put hF (fun g hg => ?_), by simp⟩
    have hg' : some w.heap.size = some g := hg
    injection hg' with hg'
    omega

theorem put_none {base rb : Nat} {T : List Tk} {wv : Value} {en : Nat} {w : World} {i d : Nat} {nv : Value} {q : List Qn} (h : Rd base rb T wv en w i d nv q) (c : Nd) (hc : c.kids = []) (hroom : q.length + 1 ≤ i) :
    Calls Try.prog 68 #[.pointer (some ⟨rb, 0, none⟩), .agg #[.int .i64 c.k, .string c.s, .int .i64 c.n, .slice none 0 0]] w fun e w' =>
      e = .returned (.int .i64 ((qnds q).length : Int)) ∧ ∃ nv' q', Rd base rb T wv en w' i d nv' q' ∧ qnds q' = qnds q ++ [c] ∧ Mv rb w nv q w' nv' q' ∧ q'.length = q.length + 1 := by
  have e0 : (Value.slice none 0 0) = .slice none c.kids.length 0 := by rw [hc]; rfl
  rw [e0]
  refine (put_any h c none 0 (by rw [hc]; exact World.ownsRow_nil _ _ _ _) (fun g hg => by cases hg) hroom).mono ?_
  rintro e w' ⟨rfl, nv', hR, hF⟩
  exact ⟨by rw [qnds_length], nv', _, hR, by rw [qnds_snoc], Mv.refl.put hF (fun g hg => by cases hg), by simp⟩

end Go.Proofs.Ytkdlgglikhbnkac
