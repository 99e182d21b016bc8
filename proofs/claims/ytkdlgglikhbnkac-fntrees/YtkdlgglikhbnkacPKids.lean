/- Lists of kids that a function of the reader holds while others run. -/
import Derived.Test.YtkdlgglikhbnkacPStmt1
namespace Go.Proofs.Ytkdlgglikhbnkac
open Go.ChangeShapes Go.WideShapes Go.ChangeAt Go.RowKit
set_option linter.unusedVariables false
set_option maxRecDepth 100000
attribute [local go_sem ↓] Go.wp_at_zero Go.wp_at_succ

theorem infoI : (Try.prog.info? 3).map (fun i => (i.zero, i.size, i.bytes)) = some (some (.int .i64 0), 1, 8) := by kernel_rfl

/-- The row lv of numbers is its holder's own, from block lo on. -/
structure Loc (lo base rb : Nat) (w : World) (nv : Value) (q : List Qn) (lv : Value) (l : List Int) : Prop where
  row : w.ownsRow base 3 1 lv l.length (icells l)
  low : ∀ g, lv.ownBlock = some g → lo ≤ g
  apart : ∀ g, lv.ownBlock = some g → g ≠ rb ∧ nv.ownBlock ≠ some g ∧ ∀ j, j < q.length → (qnAt q j).2.ownBlock ≠ some g

theorem Loc.mv {lo base rb : Nat} {w w' : World} {nv nv' : Value} {q q' : List Qn} {lv : Value} {l : List Int} (h : Loc lo base rb w nv q lv l) (m : Mv rb w nv q w' nv' q') : Loc lo base rb w' nv' q' lv l := by
  refine ⟨own_keep h.row fun g hg hl => m.block g hl (h.apart g hg).1 (h.apart g hg).2.1, h.low, fun g hg => ?_⟩
  obtain ⟨a1, a2, a3⟩ := h.apart g hg
  have hl := (own_lt h.row hg).2
  refine ⟨a1, fun e => ?_, fun j hj e => ?_⟩
  · rcases m.ownv g e with e | e
    · exact a2 e
    · omega
  · rcases m.kids j hj g e with ⟨x, hx, e⟩ | e
    · exact a3 x hx e
    · omega

theorem Loc.nil {lo base rb : Nat} {w : World} {nv : Value} {q : List Qn} : Loc lo base rb w nv q (.slice none 0 0) [] :=
  ⟨World.ownsRow_nil _ _ _ _, fun g hg => (by cases hg), fun g hg => (by cases hg)⟩

theorem Loc.fresh {base rb : Nat} {T : List Tk} {wv : Value} {en : Nat} {w : World} {i d : Nat} {nv : Value} {q : List Qn} (h : Rd base rb T wv en w i d nv q) {lo : Nat} (hlo : lo ≤ w.heap.size) (l : List Int) (hl : l.length ≤ 6000) :
    Loc lo base rb (w.alloc (Obj.cells (icells l).toArray 3)) nv q (.slice (some ⟨w.heap.size, 0, none⟩) l.length l.length) l := by
  refine ⟨owns_fresh w base l h.base_le (by unfold maxLen; omega), fun g hg => ?_, fun g hg => ?_⟩
  · have hg' : some w.heap.size = some g := hg
    injection hg' with hg'
    omega
  · have hg' : some w.heap.size = some g := hg
    injection hg' with hg'
    subst hg'
    refine ⟨by have := h.row.lt; omega, fun e => ?_, fun j hj e => ?_⟩
    · have := (own_lt h.own.row e).2; omega
    · have := (own_lt (h.own.lists j hj) e).2; omega

/-- Behind an append to such a row. -/
theorem Loc.grow {lo base rb : Nat} {T : List Tk} {wv : Value} {en : Nat} {w w6 : World} {i d : Nat} {nv : Value} {q : List Qn} {lv : Value} {l : List Int} {x : Int} {o : Obj} {gg cap6 : Nat} (hR : Rd base rb T wv en w i d nv q) (h : Loc lo base rb w nv q lv l) (hlo : lo ≤ w.heap.size)
    (hown : w6.ownsRow base 3 1 (.slice (some ⟨gg, 0, none⟩) (l.length + 1) cap6) (l.length + 1) (icells l ++ [.int .i64 x])) (hgrow : (w.alloc o).grownBy w6 lv.ownBlock) (hat : lv.ownBlock = some gg ∨ gg = w.heap.size + 1) :
    Rd base rb T wv en w6 i d nv q ∧ Loc lo base rb w6 nv q (.slice (some ⟨gg, 0, none⟩) (l.length + 1) cap6) (l ++ [x]) ∧ ∀ a na qa, Mv rb a na qa w nv q → a.heap.size ≤ lo → Mv rb a na qa w6 nv q := by
  have hz : w.heap.size + 1 ≤ w6.heap.size := by have := hgrow.size; simpa using this
  have kb : ∀ g, g < w.heap.size → lv.ownBlock ≠ some g → w6.heap[g]? = w.heap[g]? := fun g hg hne => (hgrow.block g (by simp; omega) (fun e => hne e.symm)).trans (Below.heap_alloc _ _ _ hg)
  have hnot : ∀ g, (nv.ownBlock = some g ∨ ∃ j, j < q.length ∧ (qnAt q j).2.ownBlock = some g) → lv.ownBlock ≠ some g := fun g hg e => by
    rcases hg with hg | ⟨j, hj, hg⟩
    · exact (h.apart g e).2.1 hg
    · exact (h.apart g e).2.2 j hj hg
  refine ⟨⟨hR.row.of_block (kb rb hR.row.lt fun e => (h.apart rb e).1 rfl), hR.words.keep (fun g hg hl => kb g hl fun e => by have := (own_lt h.row e).1; omega) (by omega), hR.own.keep fun g hg hl => kb g hl (hnot g hg), hR.rb0, hR.nvb, hR.kib, hR.hi, hR.hd, hR.hq⟩,
    ⟨by rw [List.length_append, icells_snoc]; exact hown, fun g hg => ?_, fun g hg => ?_⟩, fun a na qa hM ha => ?_⟩
  · have hg' : some gg = some g := hg
    injection hg' with hg'
    subst hg'
    rcases hat with e | e
    · exact h.low gg e
    · omega
  · have hg' : some gg = some g := hg
    injection hg' with hg'
    subst hg'
    rcases hat with e | e
    · exact h.apart gg e
    · refine ⟨by have := hR.row.lt; omega, fun e2 => ?_, fun j hj e2 => ?_⟩
      · have := (own_lt hR.own.row e2).2; omega
      · have := (own_lt (hR.own.lists j hj) e2).2; omega
  · have hza := hM.size
    refine ⟨hgrow.os.trans hM.os, hgrow.tape.trans hM.tape, hgrow.output.trans hM.output, by omega, fun g hg hr hn => ?_, hM.ownv, hM.kids⟩
    rw [kb g (by omega) (fun e => by have := h.low g e; omega), hM.block g hg hr hn]

theorem put_loc {lo base rb : Nat} {T : List Tk} {wv : Value} {en : Nat} {w : World} {i d : Nat} {nv : Value} {q : List Qn} {a : Option Addr} {n cap : Nat} (h : Rd base rb T wv en w i d nv q) (c : Nd) (hc : n = c.kids.length) (hL : Loc lo base rb w nv q (.slice a n cap) c.kids) (hroom : q.length + 1 ≤ i) :
    Calls Try.prog 68 #[.pointer (some ⟨rb, 0, none⟩), .agg #[.int .i64 c.k, .string c.s, .int .i64 c.n, .slice a n cap]] w fun e w' =>
      e = .returned (.int .i64 ((qnds q).length : Int)) ∧ ∃ nv' q', Rd base rb T wv en w' i d nv' q' ∧ qnds q' = qnds q ++ [c] ∧ (∀ x nx qx, Mv rb x nx qx w nv q → x.heap.size ≤ lo → Mv rb x nx qx w' nv' q') ∧ q'.length = q.length + 1 := by
  subst hc
  refine (put_any h c a cap hL.row hL.apart hroom).mono ?_
  rintro e w' ⟨rfl, nv', hR, hF⟩
  exact ⟨by rw [qnds_length], nv', _, hR, by rw [qnds_snoc], fun x nx qx hM hx => hM.put hF (fun g hg => by have := hL.low g hg; omega), by simp⟩

theorem fns_block (T : List Tk) (m : Nat) : (fns T (m + 1)).block = blockG T (fns T m) := rfl
theorem fns_blockL (T : List Tk) (m : Nat) : (fns T (m + 1)).blockL = blockLG T (fns T m) := rfl

end Go.Proofs.Ytkdlgglikhbnkac
