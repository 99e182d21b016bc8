/- The reader of words: its state, and its small functions. -/
import Derived.Test.YtkdlgglikhbnkacPOwn
import Derived.Test.YtkdlgglikhbnkacRows
import Derived.Test.YtkdlgglikhbnkacRegLast
import Derived.Outline
import Derived.Handy
import Derived.WalkLawsBesides
import Derived.Deep.QuietTactic
import Derived.BigQuiet
import Derived.Lib.QuietBelow
namespace Go.Proofs.Ytkdlgglikhbnkac
open Go.ChangeShapes Go.WideShapes Go.ChangeAt Go.RowKit
set_option linter.unusedVariables false
set_option maxRecDepth 100000
attribute [local go_sem ↓] Go.wp_at_zero Go.wp_at_succ

/-- The slice wv holds the words T, in a block ahead of base. -/
def WordsB (base : Nat) (w : World) (wv : Value) (T : List Tk) : Prop := ∃ a cap, wv = .slice a T.length cap ∧ T.length ≤ 6000 ∧ (0 < T.length → ∃ g, a = some ⟨g, 0, none⟩ ∧ g < base ∧ g < w.heap.size ∧ ToksIn w g T)
theorem WordsB.keep {base : Nat} {w w' : World} {wv : Value} {T : List Tk} (h : WordsB base w wv T) (hk : ∀ g, g < base → g < w.heap.size → w'.heap[g]? = w.heap[g]?) (hz : w.heap.size ≤ w'.heap.size) : WordsB base w' wv T := by
  obtain ⟨a, cap, h1, h2, h3⟩ := h
  refine ⟨a, cap, h1, h2, fun hp => ?_⟩
  obtain ⟨g, e, h4, h5, h6⟩ := h3 hp
  refine ⟨g, e, h4, by omega, fun i hi => ?_⟩
  obtain ⟨c1, c2, c3, c4⟩ := h6 i hi
  have e := hk g h4 h5
  exact ⟨cell_same e c1, cell_same e c2, cell_same e c3, cell_same e c4⟩

def rdf (wv : Value) (en i d : Nat) (nv : Value) : Nat → Value
  | 0 => wv
  | 1 => .int .i64 (en : Int)
  | 2 => .int .i64 (i : Int)
  | 3 => .int .i64 (d : Int)
  | _ => nv

/-- Block rb is a reader: at word i, so deep, with these nodes. -/
structure Rd (base rb : Nat) (T : List Tk) (wv : Value) (en : Nat) (w : World) (i d : Nat) (nv : Value) (q : List Qn) : Prop where
  row : RowOf w rb 52 5 (rdf wv en i d nv)
  words : WordsB base w wv T
  own : OwnN base w nv q
  rb0 : base ≤ rb
  nvb : nv.ownBlock ≠ some rb
  kib : ∀ k, k < q.length → (qnAt q k).2.ownBlock ≠ some rb
  hi : i ≤ T.length
  hd : d ≤ 30
  hq : q.length ≤ i

theorem Rd.stays {base rb : Nat} {T : List Tk} {wv : Value} {en : Nat} {w w' : World} {i d : Nat} {nv : Value} {q : List Qn} (h : Rd base rb T wv en w i d nv q) (hb : Below w.heap.size w w') : Rd base rb T wv en w' i d nv q :=
  ⟨h.row.of_block (hb.block _ h.row.lt), h.words.keep (fun g _ hl => hb.block g hl) hb.size, h.own.stays hb, h.rb0, h.nvb, h.kib, h.hi, h.hd, h.hq⟩

/-- What a part of reading may turn: the reader, its row of nodes, and what is new. -/
structure Mv (rb : Nat) (w : World) (nv : Value) (q : List Qn) (w' : World) (nv' : Value) (q' : List Qn) : Prop where
  os : w'.os = w.os
  tape : w'.tape = w.tape
  output : w'.output = w.output
  size : w.heap.size ≤ w'.heap.size
  block : ∀ g, g < w.heap.size → g ≠ rb → nv.ownBlock ≠ some g → w'.heap[g]? = w.heap[g]?
  ownv : ∀ g, nv'.ownBlock = some g → nv.ownBlock = some g ∨ w.heap.size ≤ g
  kids : ∀ k, k < q'.length → ∀ g, (qnAt q' k).2.ownBlock = some g → (∃ j, j < q.length ∧ (qnAt q j).2.ownBlock = some g) ∨ w.heap.size ≤ g

theorem Mv.of_below {rb : Nat} {w w' : World} {nv : Value} {q : List Qn} (h : Below w.heap.size w w') : Mv rb w nv q w' nv q := ⟨h.os, h.tape, h.output, h.size, fun g hl _ _ => h.block g hl, fun g hg => .inl hg, fun k hk g hg => .inl ⟨k, hk, hg⟩⟩
theorem Mv.refl {rb : Nat} {w : World} {nv : Value} {q : List Qn} : Mv rb w nv q w nv q := .of_below (Below.refl _ _)
theorem Mv.trans {rb : Nat} {a b c : World} {na nb nc : Value} {qa qb qc : List Qn} (h : Mv rb a na qa b nb qb) (k : Mv rb b nb qb c nc qc) : Mv rb a na qa c nc qc := by
  have hz := h.size
  refine ⟨k.os.trans h.os, k.tape.trans h.tape, k.output.trans h.output, Nat.le_trans h.size k.size, fun g hl hr hn => ?_, fun g hg => ?_, fun x hx g hg => ?_⟩
  · rw [k.block g (by omega) hr (fun e => by rcases h.ownv g e with e | e; exact hn e; omega), h.block g hl hr hn]
  · rcases k.ownv g hg with e | e
    · exact h.ownv g e
    · exact .inr (by omega)
  · rcases k.kids x hx g hg with ⟨j, hj, e⟩ | e
    · exact h.kids j hj g e
    · exact .inr (by omega)
theorem Mv.below {base rb : Nat} {T : List Tk} {wv : Value} {en : Nat} {w w' : World} {i d : Nat} {nv nv' : Value} {q q' : List Qn} (h : Mv rb w nv q w' nv' q') (hr : Rd base rb T wv en w i d nv q) : Below base w w' :=
  ⟨h.os, h.tape, h.output, h.size, fun g hg => h.block g (by have := hr.row.lt; have := hr.rb0; omega) (by have := hr.rb0; omega) (fun e => by have := (own_lt hr.own.row e).1; omega)⟩

theorem Rd.base_le {base rb : Nat} {T : List Tk} {wv : Value} {en : Nat} {w : World} {i d : Nat} {nv : Value} {q : List Qn} (h : Rd base rb T wv en w i d nv q) : base ≤ w.heap.size := by
  have := h.row.lt; have := h.rb0; omega

/-- The reader gives up at word i. -/
abbrev gives (T : List Tk) (en i : Nat) : Ending := .panicked [{ v := .iface 48 (.int .i64 (placeT T en i)), recovered := false }]

theorem wS_end {T : List Tk} {i : Nat} (h : T.length ≤ i) : tkAt T i = tk0 := by simp [tkAt, h]
theorem wS_lt {T : List Tk} {i : Nat} {x : ByteArray} (h : wS T i = x) (hx : x ≠ empS) : i < T.length := by
  by_cases hl : i < T.length
  · exact hl
  · exact absurd (by rw [← h, wS, wS_end (by omega)]; rfl) hx
theorem kind_lt {T : List Tk} {i : Nat} {k : Int} (h : (tkAt T i).k = k) (hk : k ≠ 0) : i < T.length := by
  by_cases hl : i < T.length
  · exact hl
  · exact absurd (by rw [← h, wS_end (by omega)]; rfl) hk

theorem Rd.cells {base rb : Nat} {T : List Tk} {wv : Value} {en : Nat} {w : World} {i d : Nat} {nv : Value} {q : List Qn} (h : Rd base rb T wv en w i d nv q) :
    w.cell? ⟨rb, 0, none⟩ = some wv ∧ w.cell? ⟨rb, 1, none⟩ = some (.int .i64 (en : Int)) ∧ w.cell? ⟨rb, 2, none⟩ = some (.int .i64 (i : Int)) ∧ w.cell? ⟨rb, 3, none⟩ = some (.int .i64 (d : Int)) ∧ w.cell? ⟨rb, 4, none⟩ = some nv :=
  ⟨h.row.cell (by omega), h.row.cell (by omega), h.row.cell (by omega), h.row.cell (by omega), h.row.cell (by omega)⟩

set_option maxHeartbeats 1000000 in
theorem here_any {base rb : Nat} {T : List Tk} {wv : Value} {en : Nat} {w : World} {i d : Nat} {nv : Value} {q : List Qn} (h : Rd base rb T wv en w i d nv q) :
    Calls Try.prog 37 #[.pointer (some ⟨rb, 0, none⟩)] w fun e w' => e = .returned (.int .i64 (placeT T en i)) ∧ Below w.heap.size w w' := by
  obtain ⟨c0, c1, c2, _, _⟩ := h.cells
  obtain ⟨a, cap, rfl, hT, hw⟩ := id h.words
  have hi := h.hi
  have k0 := cell_regrown c0
  have k2 := cell_regrown c2
  by_cases he : i = T.length
  · subst he
    have hp : placeT T en T.length = (en : Int) := by rw [placeT, if_pos rfl]
    rw [hp]
    go_enter Try.func37, Try.ntmps37
    go_wp2_with fail
    refine wp_region_quiet_below (by kernel_rfl) (by kernel_rfl) ?_
    repeat (go_big_quiet_step (fail))
    refine wpQuiet_nil ?_
    intro w4 hw4
    obtain ⟨⟨dq, osq⟩, hw5⟩ := hw4
    have hb4 : Below _ _ w4 := hw5 ▸ below_regrown _ dq osq
    have c1' := cell_stays hb4 c1
    clear hw5 k0 k2
    go_wp2
    go_ret
    exact ⟨rfl, hb4⟩
  · obtain ⟨g, rfl, hg0, hg, hI⟩ := hw (by omega)
    obtain ⟨_, _, _, x3⟩ := hI i (by omega)
    have hp : placeT T en i = (tkAt T i).p := by rw [placeT, if_neg he]
    have hne : ¬ (i : Int) = (T.length : Int) := by omega
    have i0 : (0 : Int) ≤ (i : Int) := by omega
    have i1 : (i : Int) < (T.length : Int) := by omega
    have k3 := cell_regrown x3
    rw [hp]
    clear hw hI
    go_enter Try.func37, Try.ntmps37
    go_wp2_with fail
    refine wp_region_quiet_below (by kernel_rfl) (by kernel_rfl) ?_
    repeat (go_big_quiet_step (fail))
    refine wpQuiet_nil ?_
    intro w4 hw4
    obtain ⟨⟨dq, osq⟩, hw5⟩ := hw4
    have hb4 : Below _ _ w4 := hw5 ▸ below_regrown _ dq osq
    have k0' := cell_regrown (cell_stays hb4 c0)
    have k2' := cell_regrown (cell_stays hb4 c2)
    have k3' := cell_regrown (cell_stays hb4 x3)
    clear hw5 k0 k2 k3
    go_wp2_with fail
    refine wp_region_quiet_below (by kernel_rfl) (by kernel_rfl) ?_
    repeat (go_big_quiet_step (fail))
    refine wpQuiet_nil ?_
    intro w6 hw6
    obtain ⟨⟨dq, osq⟩, hw7⟩ := hw6
    have hb6 : Below _ _ w6 := hw7 ▸ below_regrown _ dq osq
    clear hw7 k0' k2' k3'
    go_wp2
    go_ret
    exact ⟨rfl, hb4.trans (hb6.mono hb4.size)⟩

end Go.Proofs.Ytkdlgglikhbnkac
