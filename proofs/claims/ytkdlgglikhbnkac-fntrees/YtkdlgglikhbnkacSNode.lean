/- The specification's reader: nodes whose kids are none, new, or held by the caller. -/
import Derived.Test.YtkdlgglikhbnkacSGood
import Derived.Test.YtkdlgglikhbnkacPKids
namespace Go.Proofs.Ytkdlgglikhbnkac
open Go.ChangeShapes Go.WideShapes Go.ChangeAt Go.RowKit
set_option linter.unusedVariables false
set_option maxRecDepth 100000
attribute [local go_sem ↓] Go.wp_at_zero Go.wp_at_succ

theorem snode_fresh {base rb : Nat} {T : List Tk} {tv pv : Value} {w : World} {i d : Nat} {nv : Value} {q : List Qn} (h : Sd base rb T tv pv w i d nv q) (c : Nd) (hroom : q.length + 1 ≤ i) (hk : c.kids.length ≤ 6000) :
    Calls Try.prog 62 #[.pointer (some ⟨rb, 0, none⟩), .agg #[.int .i64 c.k, .string c.s, .int .i64 c.n, .slice (some ⟨w.heap.size, 0, none⟩) c.kids.length c.kids.length]] (w.alloc (Obj.cells (icells c.kids).toArray 3)) fun e w' =>
      e = .returned (.int .i64 ((qnds q).length : Int)) ∧ ∃ nv' q', Sd base rb T tv pv w' i d nv' q' ∧ qnds q' = qnds q ++ [c] ∧ Mv rb w nv q w' nv' q' ∧ q'.length = q.length + 1 := by
  have bA : Below w.heap.size w (w.alloc (Obj.cells (icells c.kids).toArray 3)) := (Below.refl _ _).alloc (Nat.le_refl _) _
  refine (snode_any (h.stays bA) c _ _ (owns_fresh w base c.kids h.base_le (by unfold maxLen; omega)) (fun g hg => ?_) hroom).mono ?_
  · have hg' : some w.heap.size = some g := hg
    injection hg' with hg'
    subst hg'
    refine ⟨by have := h.row.lt; omega, fun e => ?_, fun j hj e => ?_⟩
    · have := (own_lt h.own.row e).2; omega
    · have := (own_lt (h.own.lists j hj) e).2; omega
  · rintro e w' ⟨rfl, nv', hR, hF⟩
    refine ⟨by rw [qnds_length], nv', _, hR, by rw [qnds_snoc], (Mv.of_below bA).put hF (fun g hg => ?_), by simp⟩
    have hg' : some w.heap.size = some g := hg
    injection hg' with hg'
    omega


theorem snode_none {base rb : Nat} {T : List Tk} {tv pv : Value} {w : World} {i d : Nat} {nv : Value} {q : List Qn} (h : Sd base rb T tv pv w i d nv q) (c : Nd) (hc : c.kids = []) (hroom : q.length + 1 ≤ i) :
    Calls Try.prog 62 #[.pointer (some ⟨rb, 0, none⟩), .agg #[.int .i64 c.k, .string c.s, .int .i64 c.n, .slice none 0 0]] w fun e w' =>
      e = .returned (.int .i64 ((qnds q).length : Int)) ∧ ∃ nv' q', Sd base rb T tv pv w' i d nv' q' ∧ qnds q' = qnds q ++ [c] ∧ Mv rb w nv q w' nv' q' ∧ q'.length = q.length + 1 := by
  have e0 : (Value.slice none 0 0) = .slice none c.kids.length 0 := by rw [hc]; rfl
  rw [e0]
  refine (snode_any h c none 0 (by rw [hc]; exact World.ownsRow_nil _ _ _ _) (fun g hg => by cases hg) hroom).mono ?_
  rintro e w' ⟨rfl, nv', hR, hF⟩
  exact ⟨by rw [qnds_length], nv', _, hR, by rw [qnds_snoc], Mv.refl.put hF (fun g hg => by cases hg), by simp⟩


theorem Loc.sfresh {base rb : Nat} {T : List Tk} {tv pv : Value} {w : World} {i d : Nat} {nv : Value} {q : List Qn} (h : Sd base rb T tv pv w i d nv q) {lo : Nat} (hlo : lo ≤ w.heap.size) (l : List Int) (hl : l.length ≤ 6000) :
    Loc lo base rb (w.alloc (Obj.cells (icells l).toArray 3)) nv q (.slice (some ⟨w.heap.size, 0, none⟩) l.length l.length) l := by
  refine ⟨owns_fresh w base l h.base_le (by unfold maxLen; omega), fun g hg => ?_, fun g hg => ?_⟩
  · have hg' : some w.heap.size = some g := hg
    injection hg' with hg'
    omega
  · have hg' : some w.heap.size = some g := hg
    injection hg' with hg'
    subst hg'
    refine ⟨by have := h.row.lt; omega, fun e => ?_, fun j hj e => ?_⟩
    · have := (own_lt h.own.row e).2; omega
    · have := (own_lt (h.own.lists j hj) e).2; omega


/-- Behind an append to such a row. -/
theorem Loc.sgrow {lo base rb : Nat} {T : List Tk} {tv pv : Value} {w w6 : World} {i d : Nat} {nv : Value} {q : List Qn} {lv : Value} {l : List Int} {x : Int} {o : Obj} {gg cap6 : Nat} (hR : Sd base rb T tv pv w i d nv q) (h : Loc lo base rb w nv q lv l) (hlo : lo ≤ w.heap.size)
    (hown : w6.ownsRow base 3 1 (.slice (some ⟨gg, 0, none⟩) (l.length + 1) cap6) (l.length + 1) (icells l ++ [.int .i64 x])) (hgrow : (w.alloc o).grownBy w6 lv.ownBlock) (hat : lv.ownBlock = some gg ∨ gg = w.heap.size + 1) :
    Sd base rb T tv pv w6 i d nv q ∧ Loc lo base rb w6 nv q (.slice (some ⟨gg, 0, none⟩) (l.length + 1) cap6) (l ++ [x]) ∧ ∀ a na qa, Mv rb a na qa w nv q → a.heap.size ≤ lo → Mv rb a na qa w6 nv q := by
  have hz : w.heap.size + 1 ≤ w6.heap.size := by have := hgrow.size; simpa using this
  have kb : ∀ g, g < w.heap.size → lv.ownBlock ≠ some g → w6.heap[g]? = w.heap[g]? := fun g hg hne => (hgrow.block g (by simp; omega) (fun e => hne e.symm)).trans (Below.heap_alloc _ _ _ hg)
  have hnot : ∀ g, (nv.ownBlock = some g ∨ ∃ j, j < q.length ∧ (qnAt q j).2.ownBlock = some g) → lv.ownBlock ≠ some g := fun g hg e => by
    rcases hg with hg | ⟨j, hj, hg⟩
    · exact (h.apart g e).2.1 hg
    · exact (h.apart g e).2.2 j hj hg
  refine ⟨⟨hR.row.of_block (kb rb hR.row.lt fun e => (h.apart rb e).1 rfl), hR.words.keep (fun g hg hl => kb g hl fun e => by have := (own_lt h.row e).1; omega) (by omega), hR.own.keep fun g hg hl => kb g hl (hnot g hg), hR.rb0, hR.nvb, hR.kib, hR.hi, hR.hd, hR.hq⟩,
    ⟨by rw [List.length_append, icells_snoc]; exact hown, fun g hg => ?_, fun g hg => ?_⟩, fun a na qa hM ha => ?_⟩
  · have hg' : some gg = some g := hg
    injection hg' with hg'
    subst hg'
    rcases hat with e | e
    · exact h.low gg e
    · omega
  · have hg' : some gg = some g := hg
    injection hg' with hg'
    subst hg'
    rcases hat with e | e
    · exact h.apart gg e
    · refine ⟨by have := hR.row.lt; omega, fun e2 => ?_, fun j hj e2 => ?_⟩
      · have := (own_lt hR.own.row e2).2; omega
      · have := (own_lt (hR.own.lists j hj) e2).2; omega
  · have hza := hM.size
    refine ⟨hgrow.os.trans hM.os, hgrow.tape.trans hM.tape, hgrow.output.trans hM.output, by omega, fun g hg hr hn => ?_, hM.ownv, hM.kids⟩
    rw [kb g (by omega) (fun e => by have := h.low g e; omega), hM.block g hg hr hn]


theorem snode_loc {lo base rb : Nat} {T : List Tk} {tv pv : Value} {w : World} {i d : Nat} {nv : Value} {q : List Qn} {a : Option Addr} {n cap : Nat} (h : Sd base rb T tv pv w i d nv q) (c : Nd) (hc : n = c.kids.length) (hL : Loc lo base rb w nv q (.slice a n cap) c.kids) (hroom : q.length + 1 ≤ i) :
    Calls Try.prog 62 #[.pointer (some ⟨rb, 0, none⟩), .agg #[.int .i64 c.k, .string c.s, .int .i64 c.n, .slice a n cap]] w fun e w' =>
      e = .returned (.int .i64 ((qnds q).length : Int)) ∧ ∃ nv' q', Sd base rb T tv pv w' i d nv' q' ∧ qnds q' = qnds q ++ [c] ∧ (∀ x nx qx, Mv rb x nx qx w nv q → x.heap.size ≤ lo → Mv rb x nx qx w' nv' q') ∧ q'.length = q.length + 1 := by
  subst hc
  refine (snode_any h c a cap hL.row hL.apart hroom).mono ?_
  rintro e w' ⟨rfl, nv', hR, hF⟩
  exact ⟨by rw [qnds_length], nv', _, hR, by rw [qnds_snoc], fun x nx qx hM hx => hM.put hF (fun g hg => by have := hL.low g hg; omega), by simp⟩


/-- Only block rb, the nodes' block, and what is new, has turned. -/
structure Gz (rb : Nat) (w : World) (nv : Value) (w' : World) : Prop where
  os : w'.os = w.os
  tape : w'.tape = w.tape
  output : w'.output = w.output
  size : w.heap.size ≤ w'.heap.size
  block : ∀ g, g < w.heap.size → g ≠ rb → nv.ownBlock ≠ some g → w'.heap[g]? = w.heap[g]?
theorem Mv.gz {rb : Nat} {w w' : World} {nv nv' : Value} {q q' : List Qn} (h : Mv rb w nv q w' nv' q') : Gz rb w nv w' := ⟨h.os, h.tape, h.output, h.size, h.block⟩
theorem Fz.gz {rb : Nat} {w w' : World} (h : Fz rb w w') (nv : Value) : Gz rb w nv w' := ⟨h.os, h.tape, h.output, h.size, fun g hl hr _ => h.block g hl hr⟩
theorem Gz.fz {rb : Nat} {w w1 w2 : World} {nv : Value} (h : Gz rb w nv w1) (k : Fz rb w1 w2) : Gz rb w nv w2 :=
  ⟨k.os.trans h.os, k.tape.trans h.tape, k.output.trans h.output, Nat.le_trans h.size k.size, fun g hl hr hn => by rw [k.block g (Nat.lt_of_lt_of_le hl h.size) hr, h.block g hl hr hn]⟩
theorem Mv.thenGz {rb : Nat} {w w1 w2 : World} {nv nv1 : Value} {q q1 : List Qn} (h : Mv rb w nv q w1 nv1 q1) (k : Gz rb w1 nv1 w2) : Gz rb w nv w2 :=
  ⟨k.os.trans h.os, k.tape.trans h.tape, k.output.trans h.output, Nat.le_trans h.size k.size, fun g hl hr hn => by
    rw [k.block g (Nat.lt_of_lt_of_le hl h.size) hr (fun e => by rcases h.ownv g e with e | e; exact hn e; omega), h.block g hl hr hn]⟩

/-- The way up again, in both modes. -/
theorem Sd.up {base rb : Nat} {T : List Tk} {tv pv : Value} {w : World} {i d : Nat} {nv : Value} {q : List Qn} (h : Sd base rb T tv pv w i (d + 1) nv q) : Sd base rb T tv pv (w.setCell ⟨rb, 2, none⟩ (.int .i64 (d : Int))) i d nv q ∧ Mv rb w nv q (w.setCell ⟨rb, 2, none⟩ (.int .i64 (d : Int))) nv q :=
  h.set 2 (.int .i64 (d : Int)) (i' := i) (d' := d) (fun k hk => by
      match k, hk with
      | 0, _ => rfl
      | 1, _ => rfl
      | 2, _ => simp [spf]
      | 3, _ => rfl
      | 4, _ => rfl
      | 5, _ => rfl) h.hi (by have := h.hd; omega) h.hq
theorem Bd.up {base rb : Nat} {T : List Tk} {tv pv : Value} {w : World} {i : Nat} (h : Bd base rb T tv pv w i) (x : Int) : Bd base rb T tv pv (w.setCell ⟨rb, 2, none⟩ (.int .i64 x)) i :=
  h.set 2 _ fun d nv pv => ⟨x, nv, pv, fun k hk => by
    match k, hk with
    | 0, _ => rfl
    | 1, _ => rfl
    | 2, _ => simp [spf]
    | 3, _ => rfl
    | 4, _ => rfl
    | 5, _ => rfl⟩

/-- Behind a part that answers a node, in the good mode; one that gave up leaves the bad mode at its place. -/
def SpRet (base rb : Nat) (T : List Tk) (tv pv : Value) (w : World) (nv : Value) (q : List Qn) (d i0 : Nat) (r : PR Nat) (e : Ending) (w' : World) : Prop := match r with
  | .ok k i ns => e = .returned (.int .i64 (k : Int)) ∧ ∃ nv' q', Sd base rb T tv pv w' i d nv' q' ∧ qnds q' = ns ∧ Mv rb w nv q w' nv' q' ∧ i0 ≤ i ∧ q'.length + i0 ≤ q.length + i
  | .bad i => ∃ k : Int, e = .returned (.int .i64 k) ∧ Bd base rb T tv pv w' i ∧ Gz rb w nv w'

end Go.Proofs.Ytkdlgglikhbnkac
