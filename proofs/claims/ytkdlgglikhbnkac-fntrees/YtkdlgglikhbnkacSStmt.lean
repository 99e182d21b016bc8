/- The specification's reader: statements. -/
import Derived.Test.YtkdlgglikhbnkacSExpr3
namespace Go.Proofs.Ytkdlgglikhbnkac
open Go.ChangeShapes Go.WideShapes Go.ChangeAt Go.RowKit
set_option linter.unusedVariables false
set_option maxRecDepth 100000
attribute [local go_sem ↓] Go.wp_at_zero Go.wp_at_succ

def SBlockC (base rb : Nat) (T : List Tk) (tv pv : Value) (n : Nat) : Prop := ∀ (w : World) (i d : Nat) (nv : Value) (q : List Qn), Sd base rb T tv pv w i d nv q → T.length - i ≤ n →
  Calls Try.prog 43 #[.pointer (some ⟨rb, 0, none⟩)] w (SpRet base rb T tv pv w nv q d i (blockG T (fns T n) d i (qnds q)))
def SStmtC (base rb : Nat) (T : List Tk) (tv pv : Value) (n : Nat) : Prop := ∀ (w : World) (i d : Nat) (nv : Value) (q : List Qn), Sd base rb T tv pv w i d nv q → T.length - i ≤ n →
  Calls Try.prog 61 #[.pointer (some ⟨rb, 0, none⟩)] w (SpRet base rb T tv pv w nv q d (i + 1) (stmtG T (fns T n) d i (qnds q)))

/-- The block of a level down. -/
theorem SBlockC.down {base rb : Nat} {T : List Tk} {tv pv : Value} {n : Nat} (hB : ∀ m, m + 1 = n → SBlockC base rb T tv pv m) {w : World} {i i0 d : Nat} {nv : Value} {q : List Qn} (h : Sd base rb T tv pv w i d nv q) (h0 : i0 + 1 ≤ i) (hn : T.length - i0 ≤ n) :
    Calls Try.prog 43 #[.pointer (some ⟨rb, 0, none⟩)] w (SpRet base rb T tv pv w nv q d i ((fns T n).block d i (qnds q))) := by
  have hi := h.hi
  obtain ⟨m, rfl⟩ : ∃ m, n = m + 1 := ⟨n - 1, by omega⟩
  exact hB m rfl w i d nv q h (by omega)

/-- Behind an append to a row of the caller's own. -/
theorem SAt.grown {base rb : Nat} {T : List Tk} {tv pv : Value} {w0 : World} {nv0 : Value} {q0 : List Qn} {i0 ad sl d : Nat} {L : List Nat} {w w6 : World} {α : Type} {r : PR α} {lv : Value} {l : List Int} {x : Int} {o : Obj} {gg cap6 : Nat} (h : SAt base rb T tv pv w0 nv0 q0 i0 ad sl d L w r)
    (hrow : w.ownsRow base 3 1 lv l.length (icells l)) (hL : ∀ g, lv.ownBlock = some g → g ∈ L)
    (hown : w6.ownsRow base 3 1 (.slice (some ⟨gg, 0, none⟩) (l.length + 1) cap6) (l.length + 1) (icells l ++ [.int .i64 x])) (hgrow : (w.alloc o).grownBy w6 lv.ownBlock) (hat : lv.ownBlock = some gg ∨ gg = w.heap.size + 1) :
    SAt base rb T tv pv w0 nv0 q0 i0 ad sl d [gg] w6 r ∧ w6.ownsRow base 3 1 (.slice (some ⟨gg, 0, none⟩) (l ++ [x]).length cap6) (l ++ [x]).length (icells (l ++ [x])) := by
  have hz : w.heap.size + 1 ≤ w6.heap.size := by have := hgrow.size; simpa using this
  have hz0 := h.size
  have hlt := h.lt
  have hgg : gg < w6.heap.size := (own_lt hown rfl).2
  have kb : ∀ g, g < w.heap.size → lv.ownBlock ≠ some g → w6.heap[g]? = w.heap[g]? := fun g hg hne => (hgrow.block g (by simp; omega) (fun e => hne e.symm)).trans (Below.heap_alloc _ _ _ hg)
  refine ⟨?_, by rw [List.length_append, icells_snoc]; exact hown⟩
  rcases r with ⟨a, i, ns⟩ | i
  · obtain ⟨nv, q, hS, hq, hM, h1, h2, hO⟩ := h
    have hLoc : Loc w0.heap.size base rb w nv q lv l := ⟨hrow, fun g hg => (hO g (hL g hg)).1, fun g hg => (hO g (hL g hg)).2.2⟩
    obtain ⟨hR7, hL7, hMx7⟩ := Loc.sgrow hS hLoc hM.size hown hgrow hat
    refine ⟨nv, q, hR7, hq, hMx7 _ _ _ hM (Nat.le_refl _), h1, h2, fun g hg => ?_⟩
    have hg' : g = gg := by simpa using hg
    subst hg'
    exact ⟨hL7.low g rfl, hgg, hL7.apart g rfl⟩
  · obtain ⟨hB, hG, hO⟩ := h
    have hrb : lv.ownBlock ≠ some rb := fun e => (hO rb (hL rb e)).2.2 rfl
    refine ⟨?_, ⟨hgrow.os.trans hG.os, hgrow.tape.trans hG.tape, hgrow.output.trans hG.output, by omega, fun g hg hr hn => ?_⟩, fun g hg => ?_⟩
    · obtain ⟨d3, nv3, pv3, hr3⟩ := hB.row
      exact ⟨cell_same (kb rb hlt hrb) hB.c4, ⟨d3, nv3, pv3, hr3.of_block (kb rb hlt hrb)⟩, hB.words.keep (fun g hg hl => kb g hl fun e => by have := (own_lt hrow e).1; omega) (by omega), hB.rb0, hB.hi⟩
    · rw [kb g (by omega) (fun e => by have := (hO g (hL g e)).1; omega), hG.block g hg hr hn]
    · have hg' : g = gg := by simpa using hg
      subst hg'
      rcases hat with e | e
      · exact ⟨(hO g (hL g e)).1, hgg, (hO g (hL g e)).2.2⟩
      · exact ⟨by omega, hgg, by omega⟩

theorem stmtG_assign {T : List Tk} {R : Fns} {d i : Nat} {ns : List Nd} (h1 : ¬ wS T i = (ByteArray.mk #[119, 114, 105, 116, 101])) (h2 : ¬ wS T i = (ByteArray.mk #[105, 102])) (h3 : ¬ wS T i = (ByteArray.mk #[102, 111, 114])) (h4 : ¬ wS T i = (ByteArray.mk #[97, 98, 111, 114, 116])) (h5 : ¬ wS T i = (ByteArray.mk #[114, 101, 116, 117, 114, 110])) : stmtG T R d i ns = assignG T R d i ns := by
  rw [stmtG, if_neg h1, if_neg h2, if_neg h3, if_neg h4, if_neg h5]
theorem assign_read {T : List Tk} {R : Fns} {d i : Nat} {ns : List Nd} {p : (Unit × Tk)} {i' : Nat} {ns' : List Nd} (h : (((PR.ok () i ns).then fun a i ns => (takeF T 2 i ns).then fun t i ns => PR.ok (a, t) i ns).then fun a i ns => (skipF T (ByteArray.mk #[61]) i ns).then fun _ i ns => PR.ok a i ns) = .ok p i' ns') (hw : wS T i' = (ByteArray.mk #[114, 101, 97, 100])) :
    assignG T R d i ns = (rowG T R d (i' + 1) ns').then fun y i ns => (skipF T (ByteArray.mk #[59]) i ns).then fun _ i ns => putF ⟨21, p.2.s, y.1, [(y.2 : Int)]⟩ i ns := by
  rw [assignG]
  rcases ht : takeF T 2 i ns with ⟨t, i1, ns1⟩ | i1
  · rw [PR.then_ok, ht, PR.then_ok, PR.then_ok] at h
    rw [PR.then_ok]
    rcases hs : skipF T (ByteArray.mk #[61]) i1 ns1 with ⟨u, i2, ns2⟩ | i2
    · rw [hs, PR.then_ok] at h
      injection h with h1 h2 h3
      subst h1 h2 h3
      rw [PR.then_ok, if_pos hw, skipF, if_pos hw, PR.then_ok]
    · rw [hs] at h; cases h
  · rw [PR.then_ok, ht] at h; cases h
theorem assign_set {T : List Tk} {R : Fns} {d i : Nat} {ns : List Nd} (hw : ∀ p i' ns', (((PR.ok () i ns).then fun a i ns => (takeF T 2 i ns).then fun t i ns => PR.ok (a, t) i ns).then fun a i ns => (skipF T (ByteArray.mk #[61]) i ns).then fun _ i ns => PR.ok a i ns) = .ok p i' ns' → ¬ wS T i' = (ByteArray.mk #[114, 101, 97, 100])) :
    assignG T R d i ns = (((PR.ok () i ns).then fun a i ns => (takeF T 2 i ns).then fun t i ns => PR.ok (a, t) i ns).then fun a i ns => (skipF T (ByteArray.mk #[61]) i ns).then fun _ i ns => PR.ok a i ns).then fun p i ns => (exprG T R d i ns).then fun v i ns => (skipF T (ByteArray.mk #[59]) i ns).then fun _ i ns => putF ⟨20, p.2.s, 0, [(v : Int)]⟩ i ns := by
  rw [assignG]
  rcases ht : takeF T 2 i ns with ⟨t, i1, ns1⟩ | i1
  · rw [PR.then_ok]
    rcases hs : skipF T (ByteArray.mk #[61]) i1 ns1 with ⟨u, i2, ns2⟩ | i2
    · have a := hw ((), t) i2 ns2 (by rw [PR.then_ok, ht, PR.then_ok, PR.then_ok, hs, PR.then_ok])
      rw [PR.then_ok, if_neg a, PR.then_ok, ht, PR.then_ok, PR.then_ok, hs, PR.then_ok, PR.then_ok]
    · rw [PR.then_bad, PR.then_ok, ht, PR.then_ok, PR.then_ok, hs, PR.then_bad, PR.then_bad]
  · rw [PR.then_bad, PR.then_ok, ht, PR.then_bad, PR.then_bad, PR.then_bad]

/-- Behind the first block of a choice. -/
def choiceH (T : List Tk) (R : Fns) (d i : Nat) (ns : List Nd) : PR (((Unit × Nat) × Nat)) :=
  ((((PR.ok () (i + 1) ns).then fun a i ns => (skipF T (ByteArray.mk #[40]) i ns).then fun _ i ns => PR.ok a i ns).then fun a i ns => (exprG T R d i ns).then fun k i ns => PR.ok (a, k) i ns).then fun a i ns => (skipF T (ByteArray.mk #[41]) i ns).then fun _ i ns => PR.ok a i ns).then fun a i ns => (R.block d i ns).then fun k i ns => PR.ok (a, k) i ns
theorem choiceG_H {T : List Tk} {R : Fns} {d i : Nat} {ns : List Nd} (hi : wS T i = (ByteArray.mk #[105, 102])) : choiceG T R d i ns = (choiceH T R d i ns).then fun p i ns => if wS T i = (ByteArray.mk #[101, 108, 115, 101]) then (skipF T (ByteArray.mk #[101, 108, 115, 101]) i ns).then fun _ i ns => (R.block d i ns).then fun c i ns => putF ⟨23, empS, 0, [(p.1.2 : Int), (p.2 : Int), (c : Int)]⟩ i ns
    else putF ⟨23, empS, 0, [(p.1.2 : Int), (p.2 : Int)]⟩ i ns := by
  rw [choiceG, skipF, if_pos hi, PR.then_ok]
  simp only [choiceH, PR.then_ok, PR.then_assoc]
theorem choice_else {T : List Tk} {R : Fns} {d i : Nat} {ns : List Nd} (hi : wS T i = (ByteArray.mk #[105, 102])) {p : (Unit × Nat) × Nat} {i' : Nat} {ns' : List Nd} (h : choiceH T R d i ns = .ok p i' ns') (hw : wS T i' = (ByteArray.mk #[101, 108, 115, 101])) : choiceG T R d i ns = (R.block d (i' + 1) ns').then fun c i ns => putF ⟨23, empS, 0, [(p.1.2 : Int), (p.2 : Int), (c : Int)]⟩ i ns := by
  rw [choiceG_H hi, h, PR.then_ok, if_pos hw, skipF, if_pos hw, PR.then_ok]
theorem choice_plain {T : List Tk} {R : Fns} {d i : Nat} {ns : List Nd} (hi : wS T i = (ByteArray.mk #[105, 102])) (hw : ∀ p i' ns', choiceH T R d i ns = .ok p i' ns' → ¬ wS T i' = (ByteArray.mk #[101, 108, 115, 101])) : choiceG T R d i ns = (choiceH T R d i ns).then fun p i ns => putF ⟨23, empS, 0, [(p.1.2 : Int), (p.2 : Int)]⟩ i ns := by
  rw [choiceG_H hi]
  rcases h : choiceH T R d i ns with ⟨p, i', ns'⟩ | i'
  · rw [PR.then_ok, PR.then_ok, if_neg (hw p i' ns' h)]
  · rfl

end Go.Proofs.Ytkdlgglikhbnkac
