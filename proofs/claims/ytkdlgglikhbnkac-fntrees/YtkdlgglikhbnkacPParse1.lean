/- All of reading on each level; parameters. -/
import Derived.Test.YtkdlgglikhbnkacPStmt2
namespace Go.Proofs.Ytkdlgglikhbnkac
open Go.ChangeShapes Go.WideShapes Go.ChangeAt Go.RowKit
set_option linter.unusedVariables false
set_option maxRecDepth 100000
attribute [local go_sem ↓] Go.wp_at_zero Go.wp_at_succ

structure Lv (base rb : Nat) (T : List Tk) (wv : Value) (en n : Nat) : Prop where
  signed : SignedC base rb T wv en n
  product : ProductC base rb T wv en n
  sum : SumC base rb T wv en n
  expr : ExprC base rb T wv en n
  stmt : StmtC base rb T wv en n
  block : BlockC base rb T wv en n

theorem all_levels (base rb : Nat) (T : List Tk) (wv : Value) (en n : Nat) : Lv base rb T wv en n := by
  induction n using Nat.strongRecOn with
  | _ n ih =>
    have hs : SignedC base rb T wv en n := signed_step (fun m hm => (ih m (by omega)).signed) (fun m hm => (ih m (by omega)).expr)
    have hsA : ∀ m, m ≤ n → SignedC base rb T wv en m := fun m hm => by
      by_cases e : m = n
      · subst e; exact hs
      · exact (ih m (by omega)).signed
    have hp : ProductC base rb T wv en n := product_step hsA
    have hpA : ∀ m, m ≤ n → ProductC base rb T wv en m := fun m hm => by
      by_cases e : m = n
      · subst e; exact hp
      · exact (ih m (by omega)).product
    have hu : SumC base rb T wv en n := sum_step hpA
    have he : ExprC base rb T wv en n := expr_step hu
    have hr := row_step he
    have hb : ∀ m, m + 1 = n → BlockC base rb T wv en m := fun m hm => (ih m (by omega)).block
    have hst : StmtC base rb T wv en n := stmt_step he (write_step he hr) (choice_step he hb) (loop_step hb) (assign_step he hr)
    have hstA : ∀ m, m ≤ n → StmtC base rb T wv en m := fun m hm => by
      by_cases e : m = n
      · subst e; exact hst
      · exact (ih m (by omega)).stmt
    exact ⟨hs, hp, hu, he, hst, block_step hstA⟩

def scells (l : List ByteArray) : List Value := l.map Value.string
theorem scells_length (l : List ByteArray) : (scells l).length = l.length := by simp [scells]
theorem scells_snoc (l : List ByteArray) (x : ByteArray) : scells (l ++ [x]) = scells l ++ [.string x] := by simp [scells]

theorem infoS : (Try.prog.info? 9).map (fun i => (i.zero, i.size, i.bytes)) = some (some (.string ⟨#[]⟩), 1, 16) := by kernel_rfl

/-- The row lv is its holder's own, from block lo on. -/
structure LocR (lo base rb : Nat) (w : World) (nv : Value) (q : List Qn) (E : TypeId) (sz : Nat) (lv : Value) (n : Nat) (xs : List Value) : Prop where
  row : w.ownsRow base E sz lv n xs
  low : ∀ g, lv.ownBlock = some g → lo ≤ g
  apart : ∀ g, lv.ownBlock = some g → g ≠ rb ∧ nv.ownBlock ≠ some g ∧ ∀ j, j < q.length → (qnAt q j).2.ownBlock ≠ some g

theorem LocR.mv {lo base rb : Nat} {w w' : World} {nv nv' : Value} {q q' : List Qn} {E : TypeId} {sz : Nat} {lv : Value} {n : Nat} {xs : List Value} (h : LocR lo base rb w nv q E sz lv n xs) (m : Mv rb w nv q w' nv' q') : LocR lo base rb w' nv' q' E sz lv n xs := by
  refine ⟨own_keep h.row fun g hg hl => m.block g hl (h.apart g hg).1 (h.apart g hg).2.1, h.low, fun g hg => ?_⟩
  obtain ⟨a1, a2, a3⟩ := h.apart g hg
  have hl := (own_lt h.row hg).2
  refine ⟨a1, fun e => ?_, fun j hj e => ?_⟩
  · rcases m.ownv g e with e | e
    · exact a2 e
    · omega
  · rcases m.kids j hj g e with ⟨x, hx, e⟩ | e
    · exact a3 x hx e
    · omega
theorem LocR.lower {lo lo' base rb : Nat} {w : World} {nv : Value} {q : List Qn} {E : TypeId} {sz : Nat} {lv : Value} {n : Nat} {xs : List Value} (h : LocR lo base rb w nv q E sz lv n xs) (hl : lo' ≤ lo) : LocR lo' base rb w nv q E sz lv n xs :=
  ⟨h.row, fun g hg => by have := h.low g hg; omega, h.apart⟩

/-- Behind an append to such a row. -/
theorem LocR.grow {lo base rb : Nat} {T : List Tk} {wv : Value} {en : Nat} {w w6 : World} {i d : Nat} {nv : Value} {q : List Qn} {E : TypeId} {sz : Nat} {lv : Value} {n : Nat} {xs ys : List Value} {o : Obj} {gg cap6 : Nat} (hR : Rd base rb T wv en w i d nv q) (h : LocR lo base rb w nv q E sz lv n xs) (hlo : lo ≤ w.heap.size)
    (hown : w6.ownsRow base E sz (.slice (some ⟨gg, 0, none⟩) (n + 1) cap6) (n + 1) (xs ++ ys)) (hgrow : (w.alloc o).grownBy w6 lv.ownBlock) (hat : lv.ownBlock = some gg ∨ gg = w.heap.size + 1) :
    Rd base rb T wv en w6 i d nv q ∧ LocR lo base rb w6 nv q E sz (.slice (some ⟨gg, 0, none⟩) (n + 1) cap6) (n + 1) (xs ++ ys) ∧ (∀ g, g < w.heap.size → lv.ownBlock ≠ some g → w6.heap[g]? = w.heap[g]?) ∧ ∀ a na qa, Mv rb a na qa w nv q → a.heap.size ≤ lo → Mv rb a na qa w6 nv q := by
  have hz : w.heap.size + 1 ≤ w6.heap.size := by have := hgrow.size; simpa using this
  have kb : ∀ g, g < w.heap.size → lv.ownBlock ≠ some g → w6.heap[g]? = w.heap[g]? := fun g hg hne => (hgrow.block g (by simp; omega) (fun e => hne e.symm)).trans (Below.heap_alloc _ _ _ hg)
  have hnot : ∀ g, (nv.ownBlock = some g ∨ ∃ j, j < q.length ∧ (qnAt q j).2.ownBlock = some g) → lv.ownBlock ≠ some g := fun g hg e => by
    rcases hg with hg | ⟨j, hj, hg⟩
    · exact (h.apart g e).2.1 hg
    · exact (h.apart g e).2.2 j hj hg
  refine ⟨⟨hR.row.of_block (kb rb hR.row.lt fun e => (h.apart rb e).1 rfl), hR.words.keep (fun g hg hl => kb g hl fun e => by have := (own_lt h.row e).1; omega) (by omega), hR.own.keep fun g hg hl => kb g hl (hnot g hg), hR.rb0, hR.nvb, hR.kib, hR.hi, hR.hd, hR.hq⟩,
    ⟨hown, fun g hg => ?_, fun g hg => ?_⟩, kb, fun a na qa hM ha => ?_⟩
  · have hg' : some gg = some g := hg
    injection hg' with hg'
    subst hg'
    rcases hat with e | e
    · exact h.low gg e
    · omega
  · have hg' : some gg = some g := hg
    injection hg' with hg'
    subst hg'
    rcases hat with e | e
    · exact h.apart gg e
    · refine ⟨by have := hR.row.lt; omega, fun e2 => ?_, fun j hj e2 => ?_⟩
      · have := (own_lt hR.own.row e2).2; omega
      · have := (own_lt (hR.own.lists j hj) e2).2; omega
  · have hza := hM.size
    refine ⟨hgrow.os.trans hM.os, hgrow.tape.trans hM.tape, hgrow.output.trans hM.output, by omega, fun g hg hr hn => ?_, hM.ownv, hM.kids⟩
    rw [kb g (by omega) (fun e => by have := h.low g e; omega), hM.block g hg hr hn]

theorem LocR.fresh {base rb : Nat} {T : List Tk} {wv : Value} {en : Nat} {w : World} {i d : Nat} {nv : Value} {q : List Qn} (h : Rd base rb T wv en w i d nv q) {lo : Nat} (hlo : lo ≤ w.heap.size) (E : TypeId) (sz n : Nat) (xs : List Value) (hx : xs.length = n * sz) (hn : n ≤ maxLen) :
    LocR lo base rb (w.alloc (Obj.cells xs.toArray E)) nv q E sz (.slice (some ⟨w.heap.size, 0, none⟩) n n) n xs := by
  refine ⟨⟨hx, .inr ⟨w.heap.size, n, xs.toArray, rfl, h.base_le, heap_alloc_new w _, Nat.le_refl _, hn, by simpa using hx, by simp [← hx]⟩⟩, fun g hg => ?_, fun g hg => ?_⟩
  · have hg' : some w.heap.size = some g := hg
    injection hg' with hg'
    omega
  · have hg' : some w.heap.size = some g := hg
    injection hg' with hg'
    subst hg'
    refine ⟨by have := h.row.lt; omega, fun e => ?_, fun j hj e => ?_⟩
    · have := (own_lt h.own.row e).2; omega
    · have := (own_lt (h.own.lists j hj) e).2; omega
theorem LocR.nil {lo base rb : Nat} {w : World} {nv : Value} {q : List Qn} {E : TypeId} {sz : Nat} : LocR lo base rb w nv q E sz (.slice none 0 0) 0 [] :=
  ⟨World.ownsRow_nil _ _ _ _, fun g hg => (by cases hg), fun g hg => (by cases hg)⟩

/-- What reading parameters leaves. -/
def SRet (base rb : Nat) (T : List Tk) (wv : Value) (en : Nat) (w : World) (nv : Value) (q : List Qn) (d i0 : Nat) (r : PR (List ByteArray)) (e : Ending) (w' : World) : Prop := match r with
  | .ok ps i ns => ∃ a c, e = .returned (.slice a ps.length c) ∧ Rd base rb T wv en w' i d nv q ∧ ns = qnds q ∧ Mv rb w nv q w' nv q ∧ LocR w.heap.size base rb w' nv q 9 1 (.slice a ps.length c) ps.length (scells ps) ∧ i0 ≤ i
  | .bad i => e = gives T en i ∧ i ≤ T.length ∧ Below base w w'

theorem paramsL_end {T : List Tk} {n : Nat} {ps : List ByteArray} {i : Nat} {ns : List Nd} (h : ¬ wS T i = (ByteArray.mk #[44])) : paramsL T (n + 1) ps i ns = .ok ps i ns := by rw [paramsL, if_neg h]
theorem paramsL_more {T : List Tk} {n : Nat} {ps : List ByteArray} {i : Nat} {ns : List Nd} (h : wS T i = (ByteArray.mk #[44])) : paramsL T (n + 1) ps i ns = (takeF T 2 (i + 1) ns).then fun x i ns => paramsL T n (ps ++ [x.s]) i ns := by rw [paramsL, if_pos h]

set_option maxHeartbeats 4000000 in
theorem params_any {base rb : Nat} {T : List Tk} {wv : Value} {en n : Nat} {w : World} {i d : Nat} {nv : Value} {q : List Qn} (h : Rd base rb T wv en w i d nv q) (hn : T.length - i < n) :
    Calls Try.prog 51 #[.pointer (some ⟨rb, 0, none⟩)] w (SRet base rb T wv en w nv q d i (paramsG T n i (qnds q))) := by
  obtain ⟨iI, hII, hzi0, hzi1, hzi2⟩ := info_parts infoS
  have hT6 : T.length ≤ 6000 := by obtain ⟨_, _, _, h, _⟩ := h.words; exact h
  obtain ⟨TOP, hTOP⟩ : ∃ r, paramsG T n i (qnds q) = r := ⟨_, rfl⟩
  rw [hTOP]
  have hres : Hid (TOP = paramsG T n i (qnds q)) := hTOP.symm
  clear hTOP
  replace hres := hres.out; unfold paramsG at hres; change Hid _ at hres
  go_enter Try.func51, Try.ntmps51
  go_wp2_with fail
  refine (sees_any h (ByteArray.mk #[41])).mono ?_
  rintro e w1 ⟨rfl, hb1⟩
  have hR1 := h.stays hb1
  have hM1 := Mv.of_below (rb := rb) (nv := nv) (q := q) hb1
  by_cases hsee : wS T i = (ByteArray.mk #[41])
  · have hdec : decide (wS T i = (ByteArray.mk #[41])) = true := decide_eq_true hsee
    rw [hdec]
    replace hres := hres.out; rw [if_pos hsee] at hres; change Hid _ at hres
    clear hdec hsee
    go_wp2
    rw [hres.out]
    go_ret
    exact ⟨none, 0, rfl, hR1, rfl, hM1, LocR.nil, Nat.le_refl _⟩
  have hdec : decide (wS T i = (ByteArray.mk #[41])) = false := decide_eq_false hsee
  rw [hdec]
  replace hres := hres.out; rw [if_neg hsee] at hres; change Hid _ at hres
  clear hdec hsee
  go_wp2_with fail
  refine (take_any hR1 2 (by omega)).mono ?_
  rcases hs : takeF T 2 i (qnds q) with ⟨t, i2, ns2⟩ | ib
  rotate_left
  · rintro e wb ⟨rfl, hle, hB⟩
    replace hres := hres.out; rw [hs, PR.then_bad] at hres; change Hid _ at hres
    go_wp2
    rw [hres.out]
    exact ⟨rfl, rfl, hle, (hM1.below h).trans hB⟩
  rintro e w2 ⟨rfl, hR2, rfl, m2⟩
  replace hres := hres.out; rw [hs, PR.then_ok] at hres; change Hid _ at hres
  obtain ⟨fa2, fb2⟩ := takeF_ok hs
  have hM2 := hM1.trans m2
  clear hs
  have hfs : ∀ wy : World, (Instr.field 59 (.agg #[.int .i64 t.k, .string t.s, .int .i64 t.n, .int .i64 t.p]) 1).run Try.prog wy = .ok (.string t.s) wy := fun wy => by kernel_rfl
  have hL2 := LocR.fresh hR2 (lo := w.heap.size) hM2.size 9 1 1 (scells [t.s]) (by simp [scells]) (by unfold maxLen; omega)
  have bA : Below w2.heap.size w2 (w2.alloc (Obj.cells (scells [t.s]).toArray 9)) := (Below.refl _ _).alloc (Nat.le_refl _) _
  have hRA := hR2.stays bA
  have hMA := hM2.trans (Mv.of_below (rb := rb) (nv := nv) (q := q) bA)
  have fc2 := hR2.hi
  go_wp2_with fail
  go_loopw [3] (fun t3 wr => ∃ (m : Nat) (ps : List ByteArray) (i' : Nat) (ka : Option Addr) (kc : Nat), t3 = .slice ka ps.length kc ∧ Rd base rb T wv en wr i' d nv q ∧ LocR w.heap.size base rb wr nv q 9 1 (.slice ka ps.length kc) ps.length (scells ps) ∧ T.length - i' < m ∧ Hid (TOP = paramsL T m ps i' (qnds q)) ∧ Mv rb w nv q wr nv q ∧ i + 1 ≤ i' ∧ ps.length ≤ i') (fun _ wr => T.length - posOf wr rb)
  case atStart => exact ⟨n, [t.s], i2, _, _, rfl, hRA, hL2, by omega, hres, hMA, by omega, by simp; omega⟩
  case round =>
    clear hres hL2 hRA hMA bA
    rename World => wo
    obtain ⟨m, ps, i', ka, kc, rfl, hR, hL, hm, hres, hM, hii, hpl⟩ := hrel
    have hpo := hR.pos
    have hti := hR.hi
    obtain ⟨m1, rfl⟩ : ∃ m1, m = m1 + 1 := ⟨m - 1, by omega⟩
    go_wp2_with fail
    refine (sees_any hR (ByteArray.mk #[44])).mono ?_
    rintro e wq ⟨rfl, hbq⟩
    have hRq := hR.stays hbq
    have mq := Mv.of_below (rb := rb) (nv := nv) (q := q) hbq
    have hMq := hM.trans mq
    have hLq := hL.mv mq
    by_cases hsee : wS T i' = (ByteArray.mk #[44])
    · have hdec : decide (wS T i' = (ByteArray.mk #[44])) = true := decide_eq_true hsee
      rw [hdec]
      replace hres := hres.out; rw [paramsL_more hsee] at hres; change Hid _ at hres
      have hsk : skipF T (ByteArray.mk #[44]) i' (qnds q) = .ok () (i' + 1) (qnds q) := by rw [skipF, if_pos hsee]
      have hlt := wS_lt hsee (by decide)
      clear hdec hsee
      go_wp2_with fail
      refine (skip_any hRq (ByteArray.mk #[44]) (by decide)).mono ?_
      rw [hsk]
      rintro e w5 ⟨rfl, hR5, _, m5⟩
      have hM5 := hMq.trans m5
      have hL5 := hLq.mv m5
      go_wp2_with fail
      refine (take_any hR5 2 (by omega)).mono ?_
      rcases hs : takeF T 2 (i' + 1) (qnds q) with ⟨t6, i6, ns6⟩ | ib
      rotate_left
      · rintro e wb ⟨rfl, hle, hB⟩
        replace hres := hres.out; rw [hs, PR.then_bad] at hres; change Hid _ at hres
        go_wp2
        rw [hres.out]
        exact ⟨rfl, rfl, hle, (hM5.below h).trans hB⟩
      rintro e w6 ⟨rfl, hR6, rfl, m6⟩
      replace hres := hres.out; rw [hs, PR.then_ok] at hres; change Hid _ at hres
      obtain ⟨fa6, fb6⟩ := takeF_ok hs
      have hM6 := hM5.trans m6
      have hL6 := hL5.mv m6
      have fc6 := hR6.hi
      clear hs
      have hfs6 : ∀ wy : World, (Instr.field 59 (.agg #[.int .i64 t6.k, .string t6.s, .int .i64 t6.n, .int .i64 t6.p]) 1).run Try.prog wy = .ok (.string t6.s) wy := fun wy => by kernel_rfl
      go_wp2_with (at_builtin; refine wpList_append_lies _ rfl _ _ 34 rfl base 9 iI _ 1 16 Try.underlying34 hII hzi0 hzi1 hzi2 rfl (by decide) _ ps.length (scells ps) rfl (hL6.row.alloc _) ⟨w6.heap.size, 0, none⟩ 1 1 [.string t6.s] rfl rfl (World.news_of_block (heap_alloc_new w6 _)) (by simp [Value.oneCell']) (by simp) (by unfold maxLen; omega) (by omega) (by simp; have := hR6.base_le; omega) (w6.heap.size + 1) (by simp) ?_; intro g7 cap7 w7 hown7 hgrow7 hat7 hlt7)
      obtain ⟨hR7, hL7, _, hMx7⟩ := LocR.grow hR6 hL6 (by have := hM6.size; omega) hown7 hgrow7 hat7
      have hM7 := hMx7 _ _ _ hM6 (Nat.le_refl _)
      clear hown7 hgrow7 hat7 hlt7 hMx7
      have hp := hR7.pos
      go_roundw
      case rel => exact ⟨m1, ps ++ [t6.s], i6, some ⟨g7, 0, none⟩, cap7, by simp, hR7, by rw [scells_snoc]; simpa using hL7, by omega, hres, hM7, by omega, by simp; omega⟩
      case measure => rw [hpo, hp]; omega
    · have hdec : decide (wS T i' = (ByteArray.mk #[44])) = false := decide_eq_false hsee
      rw [hdec]
      replace hres := hres.out; rw [paramsL_end hsee] at hres; change Hid _ at hres
      clear hdec hsee
      go_wp2
      rw [hres.out]
      go_ret
      exact ⟨ka, kc, rfl, hRq, rfl, hMq, hLq, by omega⟩

end Go.Proofs.Ytkdlgglikhbnkac
