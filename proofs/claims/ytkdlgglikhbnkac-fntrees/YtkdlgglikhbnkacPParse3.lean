/- All procedures of a text. -/
import Derived.Test.YtkdlgglikhbnkacPParse2
namespace Go.Proofs.Ytkdlgglikhbnkac
open Go.ChangeShapes Go.WideShapes Go.ChangeAt Go.RowKit
set_option linter.unusedVariables false
set_option maxRecDepth 100000
attribute [local go_sem ↓] Go.wp_at_zero Go.wp_at_succ

theorem infoPr : (Try.prog.info? 36).map (fun i => (i.zero, i.size, i.bytes)) = some (some (.agg #[.string ⟨#[]⟩, .slice none 0 0, .int .i64 0]), 3, 48) := by kernel_rfl

abbrev Qp := Pr × Value
def qp0 : Qp := (pr0, .slice none 0 0)
def qpAt (p : List Qp) (i : Nat) : Qp := p.getD i qp0
def pcell (x : Qp) : List Value := [.string x.1.name, x.2, .int .i64 x.1.body]
def pcells (p : List Qp) : List Value := p.flatMap pcell
def qprs (p : List Qp) : List Pr := p.map (·.1)
theorem pcells_length (p : List Qp) : (pcells p).length = p.length * 3 := by
  induction p with
  | nil => rfl
  | cons x q ih => simp only [pcells, List.flatMap_cons, List.length_append] at *; rw [ih]; simp [pcell]; omega
theorem pcells_snoc (p : List Qp) (x : Qp) : pcells (p ++ [x]) = pcells p ++ pcell x := by simp [pcells]
theorem qprs_length (p : List Qp) : (qprs p).length = p.length := by simp [qprs]
theorem qprs_snoc (p : List Qp) (x : Qp) : qprs (p ++ [x]) = qprs p ++ [x.1] := by simp [qprs]
theorem qprs_at (p : List Qp) {i : Nat} (hi : i < p.length) : prAt (qprs p) i = (qpAt p i).1 := by simp [prAt, qpAt, qprs, hi]
theorem qpAt_snoc_lt (p : List Qp) (x : Qp) {i : Nat} (hi : i < p.length) : qpAt (p ++ [x]) i = qpAt p i := by simp [qpAt, List.getElem?_append_left hi]
theorem qpAt_snoc_eq (p : List Qp) (x : Qp) : qpAt (p ++ [x]) p.length = x := by simp [qpAt]

/-- The blocks of procedures. -/
def pown (pv : Value) (p : List Qp) (g : Nat) : Prop := pv.ownBlock = some g ∨ ∃ i, i < p.length ∧ (qpAt p i).2.ownBlock = some g

/-- The procedures that are being built. -/
structure OwnP (base : Nat) (w : World) (pv : Value) (p : List Qp) : Prop where
  row : w.ownsRow base 36 3 pv p.length (pcells p)
  lists : ∀ i, i < p.length → w.ownsRow base 9 1 (qpAt p i).2 (qpAt p i).1.ps.length (scells (qpAt p i).1.ps)
  apart : ∀ i, i < p.length → ∀ g, (qpAt p i).2.ownBlock = some g → pv.ownBlock ≠ some g ∧ ∀ j, j < p.length → j ≠ i → (qpAt p j).2.ownBlock ≠ some g
/-- They are no part of what the reader turns. -/
def FarP (lo rb : Nat) (nv : Value) (q : List Qn) (pv : Value) (p : List Qp) : Prop := ∀ g, pown pv p g → lo ≤ g ∧ g ≠ rb ∧ nv.ownBlock ≠ some g ∧ ∀ j, j < q.length → (qnAt q j).2.ownBlock ≠ some g

theorem OwnP.lt {base : Nat} {w : World} {pv : Value} {p : List Qp} (h : OwnP base w pv p) {g : Nat} (hg : pown pv p g) : base ≤ g ∧ g < w.heap.size := by
  rcases hg with hg | ⟨i, hi, hg⟩
  · exact own_lt h.row hg
  · exact own_lt (h.lists i hi) hg
theorem OwnP.keep {base : Nat} {w w' : World} {pv : Value} {p : List Qp} (h : OwnP base w pv p) (hk : ∀ g, pown pv p g → g < w.heap.size → w'.heap[g]? = w.heap[g]?) : OwnP base w' pv p :=
  ⟨own_keep h.row fun g hg hl => hk g (.inl hg) hl, fun i hi => own_keep (h.lists i hi) fun g hg hl => hk g (.inr ⟨i, hi, hg⟩) hl, h.apart⟩
theorem OwnP.nil (base : Nat) (w : World) : OwnP base w (.slice none 0 0) [] :=
  ⟨World.ownsRow_nil _ _ _ _, fun i hi => absurd hi (Nat.not_lt_zero _), fun i hi => absurd hi (Nat.not_lt_zero _)⟩
theorem pown_nil {g : Nat} (h : pown (.slice none 0 0) [] g) : False := by
  rcases h with h | ⟨i, hi, _⟩
  · cases h
  · exact absurd hi (Nat.not_lt_zero _)
theorem OwnP.mv {lo base rb : Nat} {w w' : World} {nv nv' : Value} {q q' : List Qn} {pv : Value} {p : List Qp} (h : OwnP base w pv p) (hf : FarP lo rb nv q pv p) (m : Mv rb w nv q w' nv' q') : OwnP base w' pv p ∧ FarP lo rb nv' q' pv p := by
  refine ⟨h.keep fun g hg hl => m.block g hl (hf g hg).2.1 (hf g hg).2.2.1, fun g hg => ?_⟩
  obtain ⟨a0, a1, a2, a3⟩ := hf g hg
  have hl := (h.lt hg).2
  refine ⟨a0, a1, fun e => ?_, fun j hj e => ?_⟩
  · rcases m.ownv g e with e | e
    · exact a2 e
    · omega
  · rcases m.kids j hj g e with ⟨x, hx, e⟩ | e
    · exact a3 x hx e
    · omega

/-- One procedure more. -/
theorem OwnP.snoc {base : Nat} {w w6 : World} {pv pv' lv : Value} {p : List Qp} {c : Pr} (h : OwnP base w pv p) (hl : w.ownsRow base 9 1 lv c.ps.length (scells c.ps))
    (hlg : ∀ g, lv.ownBlock = some g → ¬ pown pv p g)
    (hrow : w6.ownsRow base 36 3 pv' (p.length + 1) (pcells p ++ pcell (c, lv))) (hk : ∀ g, g < w.heap.size → pv.ownBlock ≠ some g → w6.heap[g]? = w.heap[g]?) (hov : ∀ g, pv'.ownBlock = some g → pv.ownBlock = some g ∨ w.heap.size ≤ g) :
    OwnP base w6 pv' (p ++ [(c, lv)]) := by
  have hlt : ∀ g, lv.ownBlock = some g → g < w.heap.size := fun g hg => (own_lt hl hg).2
  have hLt : ∀ i, i < p.length → ∀ g, (qpAt p i).2.ownBlock = some g → g < w.heap.size := fun i hi g hg => (own_lt (h.lists i hi) hg).2
  have hlen : (p ++ [(c, lv)]).length = p.length + 1 := by simp
  refine ⟨by rw [hlen, pcells_snoc]; exact hrow, fun i hi => ?_, fun i hi g hg => ?_⟩
  · rw [hlen] at hi
    by_cases e : i = p.length
    · subst e
      rw [qpAt_snoc_eq]
      exact own_keep hl fun g hg hgl => hk g hgl fun e => hlg g hg (.inl e)
    · have hi' : i < p.length := by omega
      rw [qpAt_snoc_lt _ _ hi']
      exact own_keep (h.lists i hi') fun g hg hgl => hk g hgl (h.apart i hi' g hg).1
  · rw [hlen] at hi ⊢
    by_cases e : i = p.length
    · subst e
      rw [qpAt_snoc_eq] at hg
      have g2 := hlt g hg
      refine ⟨fun e => ?_, fun j hj hne e => ?_⟩
      · rcases hov g e with e | e
        · exact hlg g hg (.inl e)
        · omega
      · rw [qpAt_snoc_lt _ _ (by omega)] at e
        exact hlg g hg (.inr ⟨j, by omega, e⟩)
    · have hi' : i < p.length := by omega
      rw [qpAt_snoc_lt _ _ hi'] at hg
      have g1 := hLt i hi' g hg
      obtain ⟨a1, a2⟩ := h.apart i hi' g hg
      refine ⟨fun e' => ?_, fun j hj hne e' => ?_⟩
      · rcases hov g e' with e' | e'
        · exact a1 e'
        · omega
      · by_cases ej : j = p.length
        · subst ej
          rw [qpAt_snoc_eq] at e'
          exact hlg g e' (.inr ⟨i, hi', hg⟩)
        · rw [qpAt_snoc_lt _ _ (by omega)] at e'
          exact a2 j (by omega) hne e'

/-- What reading all leaves. -/
def WRet (base : Nat) (T : List Tk) (en : Nat) (w : World) (r : PR (List Pr)) (e : Ending) (w' : World) : Prop := match r with
  | .ok ps i ns => if 800 < ns.length then e = gives T en i ∧ i ≤ T.length ∧ Below base w w'
      else ∃ na nc q pa pc p, e = .returned (.agg #[.slice na q.length nc, .slice pa p.length pc]) ∧ OwnN base w' (.slice na q.length nc) q ∧ qnds q = ns ∧ OwnP base w' (.slice pa p.length pc) p ∧ qprs p = ps ∧ (∀ g, pown (.slice pa p.length pc) p g → (Value.slice na q.length nc).ownBlock ≠ some g ∧ ∀ j, j < q.length → (qnAt q j).2.ownBlock ≠ some g) ∧ Below base w w'
  | .bad i => e = gives T en i ∧ i ≤ T.length ∧ Below base w w'

theorem wholeL_end {T : List Tk} {m : Nat} {ps : List Pr} {i : Nat} {ns : List Nd} (h : ¬ i < T.length) : wholeL T m ps i ns = .ok ps i ns := by
  cases m with
  | zero => rw [wholeL, if_neg h]
  | succ m => rw [wholeL, if_neg h]
theorem wholeL_more {T : List Tk} {m : Nat} {ps : List Pr} {i : Nat} {ns : List Nd} (h : i < T.length) : wholeL T (m + 1) ps i ns = (procG T (m + 1) i ns).then fun x i ns => wholeL T m (ps ++ [x]) i ns := by
  rw [wholeL, if_pos h]

set_option maxHeartbeats 4000000 in
theorem whole_any {base rb : Nat} {T : List Tk} {wv : Value} {en n : Nat} {w : World} {i : Nat} {nv : Value} {q : List Qn} (h : Rd base rb T wv en w i 0 nv q) (hn : T.length - i ≤ n) :
    Calls Try.prog 16 #[.pointer (some ⟨rb, 0, none⟩)] w (WRet base T en w (wholeL T n [] i (qnds q))) := by
  obtain ⟨iI, hII, hzi0, hzi1, hzi2⟩ := info_parts infoPr
  have hT6 : T.length ≤ 6000 := by obtain ⟨_, _, _, h, _⟩ := h.words; exact h
  have hrb := h.row.lt
  have hbl := h.base_le
  obtain ⟨TOP, hTOP⟩ : ∃ r, wholeL T n [] i (qnds q) = r := ⟨_, rfl⟩
  rw [hTOP]
  have hres : Hid (TOP = wholeL T n [] i (qnds q)) := hTOP.symm
  clear hTOP
  have bA : Below w.heap.size w (w.alloc (Obj.cells #[.slice none 0 0, .slice none 0 0] 27)) := (Below.refl _ _).alloc (Nat.le_refl _) _
  have hRA := h.stays bA
  have r0 : (w.alloc (Obj.cells #[.slice none 0 0, .slice none 0 0] 27)).cell? ⟨w.heap.size, 0, none⟩ = some (.slice none 0 0) := by simp [go_sem]
  have r1 : (w.alloc (Obj.cells #[.slice none 0 0, .slice none 0 0] 27)).cell? ⟨w.heap.size, 1, none⟩ = some (.slice none 0 0) := by simp [go_sem]
  have rf : ∀ j, (w.alloc (Obj.cells #[.slice none 0 0, .slice none 0 0] 27)).frozen? ⟨w.heap.size, j, none⟩ = false := fun j => by simp [go_sem]
  have hzA : w.heap.size + 1 ≤ (w.alloc (Obj.cells #[.slice none 0 0, .slice none 0 0] 27)).heap.size := by simp
  go_enter Try.func16, Try.ntmps16
  go_wp2_with fail
  generalize w.alloc (Obj.cells #[.slice none 0 0, .slice none 0 0] 27) = wA at *
  go_loopw [3] (fun t3 wr => ∃ (m : Nat) (p : List Qp) (i' : Nat) (nv' : Value) (q' : List Qn) (pa : Option Addr) (pc : Nat), t3 = .slice pa p.length pc ∧ Rd base rb T wv en wr i' 0 nv' q' ∧ OwnP base wr (.slice pa p.length pc) p ∧ FarP wA.heap.size rb nv' q' (.slice pa p.length pc) p ∧ T.length - i' ≤ m ∧ Hid (TOP = wholeL T m (qprs p) i' (qnds q')) ∧ Mv rb wA nv q wr nv' q' ∧ p.length ≤ i') (fun _ wr => T.length - posOf wr rb)
  case atStart => exact ⟨n, [], i, nv, q, none, 0, rfl, hRA, OwnP.nil _ _, fun g hg => (pown_nil hg).elim, hn, hres, Mv.refl, Nat.zero_le _⟩
  case round =>
    clear hres
    rename World => wo
    obtain ⟨m, p, i', nv', q', pa, pc, rfl, hR, hP, hF, hm, hres, hM, hpl⟩ := hrel
    have hpo := hR.pos
    have hti := hR.hi
    obtain ⟨c0, c1, c2, c3, c4⟩ := hR.cells
    obtain ⟨wa, wcap, hwv, _, _⟩ := id hR.words
    rw [hwv] at c0
    have k0 := cell_regrown c0
    have k2 := cell_regrown c2
    by_cases hlt : i' < T.length
    · have hlt' : (i' : Int) < (T.length : Int) := by omega
      obtain ⟨m1, rfl⟩ : ∃ m1, m = m1 + 1 := ⟨m - 1, by omega⟩
      replace hres := hres.out; rw [wholeL_more hlt] at hres; change Hid _ at hres
      go_wp2_with fail
      refine wp_region_quiet_below (by kernel_rfl) (by kernel_rfl) ?_
      repeat (go_big_quiet_step (fail))
      refine wpQuiet_nil ?_
      intro w4 hw4
      obtain ⟨⟨dq, osq⟩, hw5⟩ := hw4
      have hb4 : Below _ _ w4 := hw5 ▸ below_regrown _ dq osq
      clear hw5 k0 k2 c0 c1 c2 c3 c4
      have hR4 := hR.stays hb4
      have m4 := Mv.of_below (rb := rb) (nv := nv') (q := q') hb4
      have hM4 := hM.trans m4
      obtain ⟨hP4, hF4⟩ := hP.mv hF m4
      go_wp2_with fail
      refine (procedure_any (n := m1 + 1) hR4 (by omega)).mono ?_
      rcases hs : procG T (m1 + 1) i' (qnds q') with ⟨x, i6, ns6⟩ | ib
      · rintro e w6 ⟨xa, xc, rfl, nv6, q6, hR6, rfl, m6, hL6, fa6, fb6⟩
        have fc6 := hR6.hi
        replace hres := hres.out; rw [hs, PR.then_ok] at hres; change Hid _ at hres
        have hM6 := hM4.trans m6
        obtain ⟨hP6, hF6⟩ := hP4.mv hF4 m6
        have z46 := m6.size
        have zA := hM6.size
        have zA4 := hM4.size
        have hdis : ∀ g, (Value.slice xa x.ps.length xc).ownBlock = some g → ¬ pown (.slice pa p.length pc) p g := fun g hg hp => by
          have := hL6.low g hg
          have := (hP4.lt hp).2
          omega
        clear hs hP hF hP4 hF4 hM hM4 m4 m6
        go_wp2_with (at_builtin; refine wpList_append_lies _ rfl _ _ 25 rfl base 36 iI _ 3 48 Try.underlying25 hII hzi0 hzi1 hzi2 rfl (by decide) _ p.length (pcells p) rfl (hP6.row.alloc _) ⟨w6.heap.size, 0, none⟩ 1 1 [.string x.name, .slice xa x.ps.length xc, .int .i64 x.body] rfl rfl (World.news_of_block (heap_alloc_new w6 _)) (by simp [Value.oneCell']) (by simp) (by unfold maxLen; omega) (by omega) (by simp; have := hR6.base_le; omega) (w6.heap.size + 1) (by simp) ?_; intro g7 cap7 w7 hown7 hgrow7 hat7 hlt7)
        have hLp : LocR wA.heap.size base rb w6 nv6 q6 36 3 (.slice pa p.length pc) p.length (pcells p) := ⟨hP6.row, fun g hg => (hF6 g (.inl hg)).1, fun g hg => (hF6 g (.inl hg)).2⟩
        obtain ⟨hR7, hL7, hkb, hMx7⟩ := LocR.grow hR6 hLp (by omega) hown7 hgrow7 hat7
        have hM7 := hMx7 _ _ _ hM6 (Nat.le_refl _)
        have hP7 : OwnP base w7 (.slice (some ⟨g7, 0, none⟩) (p.length + 1) cap7) (p ++ [(x, .slice xa x.ps.length xc)]) := hP6.snoc hL6.row hdis hown7 hkb (fun g hg => by
          have hg' : some g7 = some g := hg
          injection hg' with hg'
          subst hg'
          rcases hat7 with e | e
          · exact .inl e
          · exact .inr (by omega))
        have hF7 : FarP wA.heap.size rb nv6 q6 (.slice (some ⟨g7, 0, none⟩) (p.length + 1) cap7) (p ++ [(x, .slice xa x.ps.length xc)]) := fun g hg => by
          rcases hg with hg | ⟨j, hj, hg⟩
          · exact ⟨hL7.low g hg, hL7.apart g hg⟩
          · by_cases hjl : j < p.length
            · rw [qpAt_snoc_lt _ _ hjl] at hg
              exact hF6 g (.inr ⟨j, hjl, hg⟩)
            · have ej : j = p.length := by simp at hj; omega
              subst ej
              rw [qpAt_snoc_eq] at hg
              exact ⟨by have := hL6.low g hg; omega, hL6.apart g hg⟩
        have hres7 : Hid (TOP = wholeL T m1 (qprs (p ++ [((x, .slice xa x.ps.length xc) : Qp)])) i6 (qnds q6)) := by show _ = _; rw [qprs_snoc]; exact hres.out
        have hp7 := hR7.pos
        refine ⟨⟨m1, p ++ [(x, .slice xa x.ps.length xc)], i6, nv6, q6, some ⟨g7, 0, none⟩, cap7, by simp, hR7, by simpa using hP7, by simpa using hF7, by omega, hres7, hM7, by simp; omega⟩, by rw [hpo, hp7]; omega⟩
      · rintro e w6 ⟨rfl, hle, hB⟩
        replace hres := hres.out; rw [hs, PR.then_bad] at hres; change Hid _ at hres
        go_wp2
        rw [hres.out]
        exact ⟨rfl, rfl, hle, (bA.mono hbl).trans ((hM4.below hRA).trans hB)⟩
    · have hlt' : ¬ (i' : Int) < (T.length : Int) := by omega
      replace hres := hres.out; rw [wholeL_end hlt] at hres; change Hid _ at hres
      go_wp2_with fail
      refine wp_region_quiet_below (by kernel_rfl) (by kernel_rfl) ?_
      repeat (go_big_quiet_step (fail))
      refine wpQuiet_nil ?_
      intro w4 hw4
      obtain ⟨⟨dq, osq⟩, hw5⟩ := hw4
      have hb4 : Below _ _ w4 := hw5 ▸ below_regrown _ dq osq
      clear hw5 k0 k2 c0 c1 c2 c3 c4
      have hR4 := hR.stays hb4
      have m4 := Mv.of_below (rb := rb) (nv := nv') (q := q') hb4
      have hM4 := hM.trans m4
      obtain ⟨hP4, hF4⟩ := hP.mv hF m4
      obtain ⟨na, nc, rfl⟩ := own_slice hR4.own.row
      obtain ⟨_, _, _, _, d4⟩ := hR4.cells
      have hq4 := hR4.hq
      have hlen : (qnds q').length = q'.length := qnds_length q'
      by_cases hbig : 800 < q'.length
      · have hbig' : (800 : Int) < (q'.length : Int) := by omega
        go_wp2_with fail
        refine (here_any hR4).mono ?_
        rintro e w6 ⟨rfl, hb6⟩
        go_wp2
        rw [hres.out]
        refine ⟨rfl, ?_⟩
        show (if 800 < (qnds q').length then _ else _)
        rw [hlen, if_pos hbig]
        exact ⟨rfl, hti, (bA.mono hbl).trans ((hM4.below hRA).trans (hb6.mono hR4.base_le))⟩
      · have hbig' : ¬ (800 : Int) < (q'.length : Int) := by omega
        have kb : w4.heap[w.heap.size]? = wA.heap[w.heap.size]? := hM4.block _ (by omega) (by omega) (fun e => by have := (own_lt h.own.row e).2; omega)
        have s0 := cell_same kb r0
        have s1 := cell_same kb r1
        have sf : ∀ j, w4.frozen? ⟨w.heap.size, j, none⟩ = false := fun j => by rw [World.frozen?_of_block (a := ⟨w.heap.size, j, none⟩) kb]; exact rf j
        have n1 : (Value.slice na q'.length nc).ownBlock ≠ some w.heap.size := fun e => by
          rcases hM4.ownv _ e with e | e
          · have := (own_lt h.own.row e).2; omega
          · omega
        have n2 : ∀ k, k < q'.length → (qnAt q' k).2.ownBlock ≠ some w.heap.size := fun k hk e => by
          rcases hM4.kids k hk _ e with ⟨j, hj, e⟩ | e
          · have := (own_lt (h.own.lists j hj) e).2; omega
          · omega
        have hB4 : Below base w w4 := (bA.mono hbl).trans (hM4.below hRA)
        clear r0 r1 rf kb
        go_wp2
        rw [hres.out]
        refine bodyPost_ret (v := .agg #[.slice na q'.length nc, .slice pa p.length pc]) (by simp [results, Try.results16, go_sem, s0, s1]) rfl ?_
        show (if 800 < (qnds q').length then _ else _)
        rw [hlen, if_neg hbig]
        have hk1 : ∀ g, g ≠ w.heap.size → ((w4.setCell ⟨w.heap.size, 0, none⟩ (.slice na q'.length nc)).setCell ⟨w.heap.size, 1, none⟩ (.slice pa p.length pc)).heap[g]? = w4.heap[g]? := fun g hg => by
          rw [Below.heap_setCell _ _ _ _ hg, Below.heap_setCell _ _ _ _ hg]
        refine ⟨na, nc, q', pa, pc, p, rfl, hR4.own.keep fun g hg _ => hk1 g (fun e => ?_), rfl, hP4.keep fun g hg _ => hk1 g (fun e => ?_), rfl, fun g hg => ⟨(hF4 g hg).2.2.1, (hF4 g hg).2.2.2⟩, ?_⟩
        · subst e
          rcases hg with hg | ⟨k, hk, hg⟩
          · exact n1 hg
          · exact n2 k hk hg
        · have := (hF4 g hg).1; omega
        · exact (hB4.setCell (by exact hbl) _).setCell (by exact hbl) _

end Go.Proofs.Ytkdlgglikhbnkac
