/- A drawn store, turned in one place: what it holds. -/
import Derived.Test.YtifdfelpbonckaaLDraw2
import Derived.Test.YtifdfelpbonckaaAppOld
namespace Go.Proofs.Ytifdfelpbonckaa
open Go.ChangeShapes Go.WideShapes Go.ChangeAt Go.RowKit Go.Maps Go.Sort
set_option linter.unusedVariables false
set_option maxRecDepth 100000
attribute [local go_sem ↓] Go.wp_at_zero Go.wp_at_succ

theorem vers_of_row {base : Nat} {w : World} {v : Value} {l : List Vr} (h : w.ownsRow base 69 2 v l.length (vcells l)) (hm : l.length ≤ 1048576) : ∃ a c, v = .slice a l.length c ∧ VersAt base w.heap.size w v l := by
  have h0 := h
  obtain ⟨h1, ⟨h2, h3⟩ | ⟨b, cap, cur, rfl, hb, hh, hcap, hm', hc, ht⟩⟩ := h
  · exact ⟨none, 0, by rw [h2, h3], none, 0, by rw [h2, h3], by unfold maxLen; omega, fun hp => absurd hp (by omega)⟩
  · refine ⟨_, cap, rfl, _, cap, rfl, by unfold maxLen; omega, fun _ => ⟨b, 0, rfl, hb, (Array.getElem?_eq_some_iff.1 hh).1, fun i hi => ?_⟩⟩
    obtain ⟨g1, g2⟩ := vcells_get l i hi
    exact ⟨by rw [Nat.zero_add, h0.cellAt _ (by omega), g1], by rw [Nat.zero_add, h0.cellAt _ (by omega), g2]⟩

theorem chains_row {base : Nat} {w : World} {ov : Value} {q : List Qc} (hrow : w.ownsRow base 49 3 ov q.length (qcells q)) (hn : q.length ≤ 1048576) (hv : ∀ i, i < q.length → ∃ a c, (qAt q i).2 = .slice a (qAt q i).1.l.length c ∧ VersAt base w.heap.size w (qAt q i).2 (qAt q i).1.l) : ChainsAt base w.heap.size w ov (qchs q) := by
  obtain ⟨h1, h2⟩ := id hrow
  have hlen := qchs_length q
  rcases h2 with ⟨rfl, hz⟩ | ⟨g, cap, cur, rfl, hg, hblk, hcap, hcm, hcs, htk⟩
  · refine ⟨none, 0, by rw [hlen, hz], by rw [hlen]; unfold maxLen; omega, fun hp => by rw [hlen] at hp; omega⟩
  · refine ⟨_, cap, by rw [hlen], by rw [hlen]; unfold maxLen; omega, fun hp => ⟨g, 0, rfl, hg, (Array.getElem?_eq_some_iff.1 hblk).1, fun i hi => ?_⟩⟩
    rw [hlen] at hi
    obtain ⟨e1, e2, e3⟩ := qcells_get q i hi
    obtain ⟨a, c, e4, hV⟩ := hv i hi
    rw [qchs_at q hi]
    refine ⟨by rw [Nat.zero_add, hrow.cellAt _ (by omega), e1], by rw [Nat.zero_add, hrow.cellAt _ (by omega), e2], a, c, by rw [Nat.zero_add, hrow.cellAt _ (by omega), e3, e4], ?_⟩
    rw [← e4]; exact hV

theorem OwnQ.chains' {base : Nat} {w : World} {ov : Value} {q : List Qc} (h : OwnQ base w ov q) (hn : q.length ≤ 1048576) (hs : ∀ i, i < q.length → (qAt q i).1.l.length ≤ 1048576) : ChainsAt base w.heap.size w ov (qchs q) :=
  chains_row h.row hn fun i hi => vers_of_row (h.lists i hi) (hs i hi)

/-- Each chain's list has room for what it holds. -/
def CapsAt (w : World) (v : Value) (l : List Ch) : Prop := ∀ i, i < l.length → ∃ b off n c a m c', v = .slice (some ⟨b, off, none⟩) n c ∧ w.cell? ⟨b, off + i * 3 + 1 + 1, none⟩ = some (.slice a m c') ∧ m ≤ c'
theorem CapsAt.stays {w w' : World} {v : Value} {l : List Ch} (h : CapsAt w v l) (hb : Below w.heap.size w w') : CapsAt w' v l := fun i hi => by
  obtain ⟨b, off, n, c, a, m, c', e, h1, h2⟩ := h i hi
  exact ⟨b, off, n, c, a, m, c', e, cell_stays hb h1, h2⟩
theorem CapsAt.keep {lo hi : Nat} {w w' : World} {v : Value} {l : List Ch} (h : CapsAt w v l) (hC : ChainsAt lo hi w v l) (hs : ∀ b, lo ≤ b → b < hi → b < w.heap.size → w'.heap[b]? = w.heap[b]?) : CapsAt w' v l := fun i hi' => by
  obtain ⟨b, off, n, c, a, m, c', e, h1, h2⟩ := h i hi'
  obtain ⟨a', cap, e', _, h3⟩ := hC
  obtain ⟨b', off', ha, hl, hh, _⟩ := h3 (by omega)
  subst e ha
  cases e'
  exact ⟨b, off, _, c, a, m, c', rfl, cell_same (hs b hl hh (cell_lt h1)) h1, h2⟩
theorem owns_caps {w : World} {base : Nat} {e : TypeId} {size : Nat} {v : Value} {n : Nat} {xs : List Value} (h : w.ownsRow base e size v n xs) : ∃ a m c, v = .slice a m c ∧ m ≤ c := by
  rcases h.2 with ⟨rfl, rfl⟩ | ⟨g, cap, cur, rfl, _, _, hcap, _⟩
  · exact ⟨_, _, _, rfl, Nat.le_refl _⟩
  · exact ⟨_, _, _, rfl, hcap⟩
theorem caps_row {base : Nat} {w : World} {ov : Value} {q : List Qc} (hrow : w.ownsRow base 49 3 ov q.length (qcells q)) (hv : ∀ i, i < q.length → ∃ a m c, (qAt q i).2 = .slice a m c ∧ m ≤ c) : CapsAt w ov (qchs q) := fun i hi => by
  rw [qchs_length] at hi
  obtain ⟨h1, h2⟩ := id hrow
  rcases h2 with ⟨rfl, hz⟩ | ⟨g, cap, cur, rfl, hg, hblk, hcap, hcm, hcs, htk⟩
  · omega
  · obtain ⟨a, m, c, e, hm⟩ := hv i hi
    obtain ⟨e1, e2, e3⟩ := qcells_get q i hi
    exact ⟨g, 0, _, _, a, m, c, rfl, by rw [Nat.zero_add, show i * 3 + 1 + 1 = i * 3 + 2 from rfl, hrow.cellAt _ (by omega), e3, e], hm⟩

/-- The table's cell alone. -/
theorem qcells_setT (q : List Qc) (i : Nat) (k : Int) (hi : i < q.length) : (qcells q).set (i * 3) (.int .i64 k) = qcells (q.set i (⟨k, (qAt q i).1.r, (qAt q i).1.l⟩, (qAt q i).2)) := by
  rw [← qcells_set q i _ hi]
  obtain ⟨h1, h2, h3⟩ := qcells_get q i hi
  have hl := qcells_length q
  refine List.ext_getElem? fun j => ?_
  by_cases e2 : i * 3 + 2 = j
  · subst e2
    rw [List.getElem?_set_self (by simp; omega), List.getElem?_set_ne (by omega), h3]
  · rw [List.getElem?_set_ne e2]
    by_cases e1 : i * 3 + 1 = j
    · subst e1
      rw [List.getElem?_set_self (by simp; omega), List.getElem?_set_ne (by omega), h2]
    · rw [List.getElem?_set_ne e1]

theorem OwnQ.setT {base : Nat} {w : World} {g cap : Nat} {q : List Qc} (h : OwnQ base w (.slice (some ⟨g, 0, none⟩) q.length cap) q) {i : Nat} (hi : i < q.length) (k : Int) : OwnQ base (w.setCell ⟨g, i * 3, none⟩ (.int .i64 k)) (.slice (some ⟨g, 0, none⟩) q.length cap) (q.set i (⟨k, (qAt q i).1.r, (qAt q i).1.l⟩, (qAt q i).2)) := by
  have hlen : (q.set i (⟨k, (qAt q i).1.r, (qAt q i).1.l⟩, (qAt q i).2)).length = q.length := by simp
  have hv2 : ∀ j, (qAt (q.set i (⟨k, (qAt q i).1.r, (qAt q i).1.l⟩, (qAt q i).2)) j).2 = (qAt q j).2 ∧ (qAt (q.set i (⟨k, (qAt q i).1.r, (qAt q i).1.l⟩, (qAt q i).2)) j).1.l = (qAt q j).1.l := fun j => by
    by_cases e : i = j
    · subst e; rw [qAt_set_eq _ _ hi]; exact ⟨rfl, rfl⟩
    · rw [qAt_set_ne _ _ e]; exact ⟨rfl, rfl⟩
  refine ⟨?_, fun j hj => ?_, fun j hj g' hg' => ?_⟩
  · rw [hlen, ← qcells_setT q i k hi]
    exact (h.row.stored (i * 3) (.int .i64 k)).1
  · rw [hlen] at hj
    rw [(hv2 j).1, (hv2 j).2]
    exact owns_keep (h.lists j hj) fun g' hg' _ => Below.heap_setCell _ _ _ _ (fun e => (h.apart j hj g' hg').1 (by rw [e]; rfl))
  · rw [hlen] at hj
    rw [(hv2 j).1] at hg'
    refine ⟨(h.apart j hj g' hg').1, fun j' hj' hne => ?_⟩
    rw [hlen] at hj'
    rw [(hv2 j').1]
    exact (h.apart j hj g' hg').2 j' hj' hne

theorem vcells_set0 (l : List Vr) (k : Int) (hl : 0 < l.length) : (vcells l).set 0 (.int .i64 k) = vcells (l.set 0 (k, (vAt l 0).2)) := by
  cases l with
  | nil => simp at hl
  | cons x l => simp [vcells, vAt]

theorem OwnQ.setA {base : Nat} {w : World} {ov : Value} {q : List Qc} (h : OwnQ base w ov q) {i : Nat} (hi : i < q.length) {g cap : Nat} (hl : 0 < (qAt q i).1.l.length) (hv : (qAt q i).2 = .slice (some ⟨g, 0, none⟩) (qAt q i).1.l.length cap) (k : Int) : OwnQ base (w.setCell ⟨g, 0, none⟩ (.int .i64 k)) ov (q.set i (⟨(qAt q i).1.t, (qAt q i).1.r, (qAt q i).1.l.set 0 (k, (vAt (qAt q i).1.l 0).2)⟩, (qAt q i).2)) := by
  have hlen : (q.set i (⟨(qAt q i).1.t, (qAt q i).1.r, (qAt q i).1.l.set 0 (k, (vAt (qAt q i).1.l 0).2)⟩, (qAt q i).2)).length = q.length := by simp
  have hv2 : ∀ j, (qAt (q.set i (⟨(qAt q i).1.t, (qAt q i).1.r, (qAt q i).1.l.set 0 (k, (vAt (qAt q i).1.l 0).2)⟩, (qAt q i).2)) j).2 = (qAt q j).2 := fun j => by
    by_cases e : i = j
    · subst e; rw [qAt_set_eq _ _ hi]
    · rw [qAt_set_ne _ _ e]
  have hgi : (qAt q i).2.ownBlock = some g := by rw [hv]; rfl
  refine ⟨?_, fun j hj => ?_, fun j hj g' hg' => ?_⟩
  · rw [hlen]
    have e : qcells (q.set i (⟨(qAt q i).1.t, (qAt q i).1.r, (qAt q i).1.l.set 0 (k, (vAt (qAt q i).1.l 0).2)⟩, (qAt q i).2)) = qcells q := by
      rw [← qcells_setL q i ⟨(qAt q i).1.t, (qAt q i).1.r, (qAt q i).1.l.set 0 (k, (vAt (qAt q i).1.l 0).2)⟩ (qAt q i).2 hi rfl rfl]
      refine List.ext_getElem? fun j => ?_
      by_cases e : i * 3 + 2 = j
      · subst e
        rw [List.getElem?_set_self (by rw [qcells_length]; omega), (qcells_get q i hi).2.2]
      · rw [List.getElem?_set_ne e]
    rw [e]
    exact owns_keep h.row fun g' hg' _ => Below.heap_setCell _ _ _ _ (fun e => (h.apart i hi g hgi).1 (by have e2 : g' = g := e; rw [← e2]; exact hg'))
  · rw [hlen] at hj
    by_cases e : i = j
    · subst e
      rw [qAt_set_eq _ _ hi]
      show World.ownsRow _ base _ 2 _ ((qAt q i).1.l.set 0 _).length (vcells ((qAt q i).1.l.set 0 _))
      rw [List.length_set, ← vcells_set0 _ _ hl]
      have := h.lists i hi
      rw [hv] at this ⊢
      exact (this.stored 0 (.int .i64 k)).1
    · rw [qAt_set_ne _ _ e]
      exact owns_keep (h.lists j hj) fun g' hg' _ => Below.heap_setCell _ _ _ _ (fun e' => (h.apart i hi g hgi).2 j hj (Ne.symm e) (by have e2 : g' = g := e'; rw [← e2]; exact hg'))
  · rw [hlen] at hj
    rw [hv2 j] at hg'
    refine ⟨(h.apart j hj g' hg').1, fun j' hj' hne => ?_⟩
    rw [hlen] at hj'
    rw [hv2 j']
    exact (h.apart j hj g' hg').2 j' hj' hne

theorem OwnQ.setNil {base : Nat} {w : World} {g cap : Nat} {q : List Qc} (h : OwnQ base w (.slice (some ⟨g, 0, none⟩) q.length cap) q) {i : Nat} (hi : i < q.length) : OwnQ base (w.setCell ⟨g, i * 3 + 2, none⟩ (.slice none 0 0)) (.slice (some ⟨g, 0, none⟩) q.length cap) (q.set i (⟨(qAt q i).1.t, (qAt q i).1.r, []⟩, .slice none 0 0)) :=
  h.setList hi rfl rfl (h.row.stored (i * 3 + 2) (.slice none 0 0)).1 (World.ownsRow_nil _ _ _ _) (fun g' hg' => by cases hg') (fun g' _ hne _ => Below.heap_setCell _ _ _ _ (fun e => hne (by rw [e]; rfl)))

theorem l1Once_any (cb : Nat) (n : Int) (w : World) (hc : Cur w cb) :
    Calls Try.prog 28 #[.pointer (some ⟨cb, 0, none⟩), .int .i64 n] w fun e w' => (∃ b : Bool, e = .returned (.bool b)) ∧ Cur w' cb ∧ w.grownBy w' (some cb) := by
  go_enter Try.func28, Try.ntmps28
  go_wp2_with fail
  refine (l1Below_any cb n _ hc).mono ?_
  rintro e w2 ⟨⟨x2, rfl, hx20, hx21⟩, hc2, hg2⟩
  go_wp2
  go_ret
  exact ⟨⟨_, rfl⟩, hc2, hg2⟩

/-- What is bent: whatever chains, not too long, in memory of its own. -/
def BentAns (w : World) (cb : Nat) (w' : World) (e : Ending) : Prop := ∃ v l, e = .returned (.agg #[v]) ∧ ChainsAt (w.heap.size + 3) w'.heap.size w' v l ∧ l.length ≤ 13 ∧ (∀ i, i < l.length → (cAt l i).l.length ≤ 200) ∧ WfCh l ∧ CapsAt w' v l ∧ Cur w' cb ∧ w.grownBy w' (some cb)

/-- While a store is bent: the cursor, the result, the store's variable. -/
structure BR (w : World) (cb bs : Nat) (ov : Value) (x : World) : Prop where
  hcb : cb < w.heap.size
  hbs : w.heap.size + 3 ≤ bs
  lt : bs < x.heap.size
  g : w.grownBy x (some cb)
  cu : Cur x cb
  p0 : x.cell? ⟨w.heap.size, 0, none⟩ = some (.slice none 0 0)
  q0 : x.frozen? ⟨w.heap.size, 0, none⟩ = false
  p1 : x.cell? ⟨bs, 0, none⟩ = some ov
  q1 : x.frozen? ⟨bs, 0, none⟩ = false
theorem BR.go {w : World} {cb bs : Nat} {ov : Value} {x y : World} (h : BR w cb bs ov x) (hg : x.grownBy y (some cb)) (hc : Cur y cb) : BR w cb bs ov y where
  hcb := h.hcb
  hbs := h.hbs
  lt := by have := h.lt; have := hg.size; omega
  g := gb_tr h.g hg
  cu := hc
  p0 := (hg.cell_far _ (by have := h.lt; have := h.hbs; show w.heap.size < _; omega) (by intro e; injection e with e; simp at e; have := h.hcb; omega)).trans h.p0
  q0 := (hg.frozen_far _ (by have := h.lt; have := h.hbs; show w.heap.size < _; omega) (by intro e; injection e with e; simp at e; have := h.hcb; omega)).trans h.q0
  p1 := (hg.cell_far _ h.lt (by intro e; injection e with e; simp at e; have := h.hcb; have := h.hbs; omega)).trans h.p1
  q1 := (hg.frozen_far _ h.lt (by intro e; injection e with e; simp at e; have := h.hcb; have := h.hbs; omega)).trans h.q1
/-- Where nothing low, and not the variable, is turned. -/
theorem BR.turn {w : World} {cb bs : Nat} {ov : Value} {x y : World} (h : BR w cb bs ov x) (ho : y.os = x.os) (ht : y.tape = x.tape) (hu : y.output = x.output) (hz : x.heap.size ≤ y.heap.size) (hk : ∀ k, k < w.heap.size + 3 ∨ k = bs → y.heap[k]? = x.heap[k]?) : BR w cb bs ov y where
  hcb := h.hcb
  hbs := h.hbs
  lt := by have := h.lt; omega
  g := ⟨ho.trans h.g.os, ht.trans h.g.tape, hu.trans h.g.output, Nat.le_trans h.g.size hz, fun j hj hne => (hk j (.inl (by omega))).trans (h.g.block j hj hne)⟩
  cu := h.cu.low fun k hkk => hk k (.inl (by have := h.hcb; omega))
  p0 := cell_same (hk w.heap.size (.inl (by omega))) h.p0
  q0 := by rw [frozen_same (hk w.heap.size (.inl (by omega)))]; exact h.q0
  p1 := cell_same (hk bs (.inr rfl)) h.p1
  q1 := by rw [frozen_same (hk bs (.inr rfl))]; exact h.q1

theorem BR.done {w : World} {cb bs : Nat} {a : Option Addr} {m c : Nat} {x : World} {l : List Ch} (h : BR w cb bs (.slice a m c) x) (hC : ChainsAt (w.heap.size + 3) x.heap.size x (.slice a m c) l) (h1 : l.length ≤ 13) (h2 : ∀ i, i < l.length → (cAt l i).l.length ≤ 200) (h3 : WfCh l) (h4 : CapsAt x (.slice a m c) l) : BentAns w cb (x.setCell ⟨w.heap.size, 0, none⟩ (.slice a m c)) (.returned (.agg #[.slice a m c])) := by
  refine ⟨_, l, rfl, ?_, h1, h2, h3, ?_, ?_, ?_⟩
  · rw [size_setCell]
    exact hC.keep fun b hb _ _ => Below.heap_setCell _ _ _ _ (by show b ≠ w.heap.size; omega)
  · exact h4.keep hC fun b hb _ _ => Below.heap_setCell _ _ _ _ (by show b ≠ w.heap.size; omega)
  · exact h.cu.low fun k hk => Below.heap_setCell _ _ _ _ (by have := h.hcb; show k ≠ w.heap.size; omega)
  · exact gb_new h.g (Nat.le_refl _) _

theorem owns_form {w : World} {base : Nat} {e : TypeId} {size : Nat} {v : Value} {n : Nat} {xs : List Value} (h : w.ownsRow base e size v n xs) : ∃ a c, v = .slice a n c := by
  rcases h.2 with ⟨rfl, rfl⟩ | ⟨g, cap, cur, rfl, _⟩
  · exact ⟨_, _, rfl⟩
  · exact ⟨_, _, rfl⟩

theorem wf_small {x : Int} (h0 : -10 ≤ x) (h1 : x ≤ 10) : wf x := by
  show (Lit.int .i64 x).wf = true
  simp [Lit.wf, IntKind.min, IntKind.max, IntKind.bits, IntKind.signed]
  omega

/-- Chains that are small, and so is one in whose place another stands. -/
structure Sm2 (l : List Ch) : Prop where
  len : l.length ≤ 13
  lst : ∀ c ∈ l, c.l.length ≤ 200
  key : ∀ c ∈ l, (-10 ≤ c.t ∧ c.t ≤ 10) ∧ (-10 ≤ c.r ∧ c.r ≤ 10)
theorem Sm2.of {m : Nat} {l : List Ch} (h : SmC m l) (hm : m ≤ 12) : Sm2 l :=
  ⟨by have := h.1; omega, fun c hc => by have := (h.2 c hc).2.1; omega, fun c hc => by obtain ⟨_, _, h3, h4⟩ := h.2 c hc; omega⟩
theorem Sm2.set {l : List Ch} (h : Sm2 l) (i : Nat) {c : Ch} (h1 : c.l.length ≤ 200) (h2 : (-10 ≤ c.t ∧ c.t ≤ 10) ∧ (-10 ≤ c.r ∧ c.r ≤ 10)) : Sm2 (l.set i c) :=
  ⟨by rw [List.length_set]; exact h.len, fun x hx => by rcases mem_set_or hx with hx | rfl; exact h.lst x hx; exact h1, fun x hx => by rcases mem_set_or hx with hx | rfl; exact h.key x hx; exact h2⟩
theorem Sm2.at {l : List Ch} (h : Sm2 l) {i : Nat} (hi : i < l.length) : (cAt l i).l.length ≤ 200 ∧ (-10 ≤ (cAt l i).t ∧ (cAt l i).t ≤ 10) ∧ (-10 ≤ (cAt l i).r ∧ (cAt l i).r ≤ 10) := ⟨h.lst _ (cAt_memD hi), h.key _ (cAt_memD hi)⟩
theorem Sm2.wf {l : List Ch} (h : Sm2 l) : WfCh l := fun i hi => by
  obtain ⟨_, h1, h2⟩ := h.at hi
  exact ⟨wf_small h1.1 h1.2, wf_small h2.1 h2.2⟩
theorem OwnQ.done {w : World} {cb bs : Nat} {a : Option Addr} {m c : Nat} {x : World} {q : List Qc} (hO : OwnQ (w.heap.size + 3) x (.slice a m c) q) (h : BR w cb bs (.slice a m c) x) (hS : Sm2 (qchs q)) : BentAns w cb (x.setCell ⟨w.heap.size, 0, none⟩ (.slice a m c)) (.returned (.agg #[.slice a m c])) := by
  have hl := hS.len
  rw [qchs_length] at hl
  exact h.done (hO.chains' (by omega) fun i hi => by have := (hS.at (i := i) (by rw [qchs_length]; exact hi)).1; rw [qchs_at q hi] at this; omega) hS.len (fun i hi => (hS.at hi).1) hS.wf (caps_row hO.row fun i hi => owns_caps (hO.lists i hi))

theorem BR.setv {w : World} {cb bs : Nat} {ov : Value} {x : World} (h : BR w cb bs ov x) (nv : Value) : BR w cb bs nv (x.setCell ⟨bs, 0, none⟩ nv) := by
  have hk : ∀ k, k ≠ bs → (x.setCell ⟨bs, 0, none⟩ nv).heap[k]? = x.heap[k]? := fun k hk => Below.heap_setCell _ _ _ _ hk
  have hne : w.heap.size ≠ bs := by have := h.hbs; omega
  have p1 := h.p1
  exact { hcb := h.hcb, hbs := h.hbs, lt := by rw [size_setCell]; exact h.lt, g := ⟨h.g.os, h.g.tape, h.g.output, by rw [size_setCell]; exact h.g.size, fun j hj hn => (hk j (by have := h.hbs; omega)).trans (h.g.block j hj hn)⟩,
          cu := h.cu.low fun k hkk => hk k (by have := h.hbs; have := h.hcb; omega), p0 := cell_same (hk _ hne) h.p0, q0 := by rw [frozen_same (hk _ hne)]; exact h.q0,
          p1 := by simp [go_sem, p1], q1 := by rw [World.frozen?_setCell]; exact h.q1 }

theorem Sm2.snoc {l : List Ch} (h : Sm2 l) (hl : l.length ≤ 12) {c : Ch} (hc : c ∈ l) : Sm2 (l ++ [c]) :=
  ⟨by simp; omega, fun x hx => by rcases List.mem_append.1 hx with hx | hx; exact h.lst x hx; (rw [List.mem_singleton] at hx; subst hx; exact h.lst _ hc), fun x hx => by rcases List.mem_append.1 hx with hx | hx; exact h.key x hx; (rw [List.mem_singleton] at hx; subst hx; exact h.key _ hc)⟩

theorem bent_app {w : World} {cb bs g0 c0 : Nat} {w5 w8 : World} {q : List Qc} {i gg cap8 : Nat} {o : Obj} (hR : BR w cb bs (.slice (some ⟨g0, 0, none⟩) q.length c0) w5) (hO : OwnQ (w.heap.size + 3) w5 (.slice (some ⟨g0, 0, none⟩) q.length c0) q) (hi : i < q.length) (hql : q.length ≤ 12) (hS : Sm2 (qchs q)) (hg0 : w.heap.size + 3 ≤ g0)
    (hnb : ∀ g, ((Value.slice (some ⟨g0, 0, none⟩) q.length c0).ownBlock = some g ∨ ∃ i, i < q.length ∧ (qAt q i).2.ownBlock = some g) → g ≠ bs)
    (hown : w8.ownsRow (w.heap.size + 3) 49 3 (.slice (some ⟨gg, 0, none⟩) (q.length + 1) cap8) (q.length + 1) (qcells q ++ qcell ((qAt q i).1, (qAt q i).2))) (hg : (w5.alloc o).drew.grownBy w8 (Value.slice (some ⟨g0, 0, none⟩) q.length c0).ownBlock) (hat : (Value.slice (some ⟨g0, 0, none⟩) q.length c0).ownBlock = some gg ∨ gg = w5.heap.size + 1) :
    BR w cb bs (.slice (some ⟨gg, 0, none⟩) (q.length + 1) cap8) (w8.setCell ⟨bs, 0, none⟩ (.slice (some ⟨gg, 0, none⟩) (q.length + 1) cap8)) ∧ BentAns w cb ((w8.setCell ⟨bs, 0, none⟩ (.slice (some ⟨gg, 0, none⟩) (q.length + 1) cap8)).setCell ⟨w.heap.size, 0, none⟩ (.slice (some ⟨gg, 0, none⟩) (q.length + 1) cap8)) (.returned (.agg #[.slice (some ⟨gg, 0, none⟩) (q.length + 1) cap8])) := by
  have hgl0 : g0 < w5.heap.size := (owns_lt hO.row (g := g0) rfl).2
  have hneb : g0 ≠ bs := hnb g0 (.inl rfl)
  have hlt := hR.lt
  have hz : w5.heap.size + 1 ≤ w8.heap.size := by have := hg.size; simpa using this
  have kb : ∀ g, g < w5.heap.size → g ≠ g0 → w8.heap[g]? = w5.heap[g]? := fun g hgl hne => (hg.block g (by show _ < (w5.alloc o).heap.size; simp; omega) (fun e => hne (by cases e; rfl))).trans (Below.heap_alloc w5 o g hgl)
  have hR8 : BR w cb bs (.slice (some ⟨g0, 0, none⟩) q.length c0) w8 := hR.turn hg.os hg.tape hg.output (by omega) (fun k hk => kb k (by rcases hk with h | h <;> omega) (by rcases hk with h | h; omega; (rw [h]; exact Ne.symm hneb)))
  have hR9 := hR8.setv (.slice (some ⟨gg, 0, none⟩) (q.length + 1) cap8)
  have hggb : gg ≠ bs := by
    rcases hat with e | e
    · have e2 : g0 = gg := by simpa [Value.ownBlock] using e
      rw [← e2]; exact hneb
    · omega
  refine ⟨hR9, ?_⟩
  have hlen : (q ++ [((qAt q i).1, (qAt q i).2)]).length = q.length + 1 := by simp
  have hrow9 : (w8.setCell ⟨bs, 0, none⟩ (.slice (some ⟨gg, 0, none⟩) (q.length + 1) cap8)).ownsRow (w.heap.size + 3) 49 3 (.slice (some ⟨gg, 0, none⟩) (q.length + 1) cap8) (q ++ [((qAt q i).1, (qAt q i).2)]).length (qcells (q ++ [((qAt q i).1, (qAt q i).2)])) := by
    rw [hlen, qcells_snoc]
    exact ownsRow_setCell_other hown (a := ⟨bs, 0, none⟩) (fun e => hggb (by simpa [Value.ownBlock] using e)) _
  have hls : ∀ j, j < q.length → (w8.setCell ⟨bs, 0, none⟩ (.slice (some ⟨gg, 0, none⟩) (q.length + 1) cap8)).ownsRow (w.heap.size + 3) 69 2 (qAt q j).2 (qAt q j).1.l.length (vcells (qAt q j).1.l) := fun j hj =>
    owns_keep (hO.lists j hj) fun g hgo hgl => (Below.heap_setCell _ _ _ _ (hnb g (.inr ⟨j, hj, hgo⟩))).trans (kb g hgl (fun e => (hO.apart j hj g hgo).1 (by rw [e]; rfl)))
  have hsz : ∀ j, j < q.length → (qAt q j).1.l.length ≤ 1048576 := fun j hj => by
    have := (hS.at (i := j) (by rw [qchs_length]; exact hj)).1
    rw [qchs_at q hj] at this
    omega
  have hC := chains_row hrow9 (by rw [hlen]; omega) (fun j hj => by
    rw [hlen] at hj
    by_cases e : j = q.length
    · subst e
      rw [qAt_snoc_eq]
      exact vers_of_row (hls i hi) (hsz i hi)
    · rw [qAt_snoc_lt q _ (by omega)]
      exact vers_of_row (hls j (by omega)) (hsz j (by omega)))
  have hS9 : Sm2 (qchs (q ++ [((qAt q i).1, (qAt q i).2)])) := by
    rw [qchs_snoc]
    refine hS.snoc (by rw [qchs_length]; exact hql) ?_
    have := cAt_memD (l := qchs q) (i := i) (by rw [qchs_length]; exact hi)
    rwa [qchs_at q hi] at this
  exact hR9.done hC hS9.len (fun j hj => (hS9.at hj).1) hS9.wf (caps_row hrow9 fun j hj => by
    rw [hlen] at hj
    by_cases e : j = q.length
    · subst e
      rw [qAt_snoc_eq]
      exact owns_caps (hls i hi)
    · rw [qAt_snoc_lt q _ (by omega)]
      exact owns_caps (hls j (by omega)))

def lenM (g0 i : Nat) (w : World) : Nat := match w.cell? ⟨g0, i * 3 + 2, none⟩ with | some (.slice _ n _) => 200 - n | _ => 0
theorem build_ver1 (a : Int) (w : World) : (Instr.build 69 #[(0, .int .i64 a)]).run Try.prog w = .ok (.agg #[.int .i64 a, .int .i64 0]) w := by kernel_rfl

def pick4 (x y z u : Int) : Nat → Int
  | 0 => x
  | 1 => y
  | 2 => z
  | _ => u
theorem four_at (w : World) (x y z u : Int) (T : TypeId) : ∀ j, j < 4 → (w.alloc (Obj.cells #[.int .i64 x, .int .i64 y, .int .i64 z, .int .i64 u] T)).cell? ⟨w.heap.size, 0 + j, none⟩ = some (.int .i64 (pick4 x y z u j)) := fun j hj => by
  match j, hj with
  | 0, _ => simp [go_sem, pick4]
  | 1, _ => simp [go_sem, pick4]
  | 2, _ => simp [go_sem, pick4]
  | 3, _ => simp [go_sem, pick4]

set_option maxHeartbeats 4000000 in
theorem l1bent_any (cb : Nat) (w : World) (hc : Cur w cb) :
    Calls Try.prog 26 #[.pointer (some ⟨cb, 0, none⟩)] w fun e w' => BentAns w cb w' e := by
  have hcl := hc.lt
  have bA : Below w.heap.size w (w.alloc (Obj.cells #[.slice none 0 0] 25)) := (Below.refl _ _).alloc (Nat.le_refl _) _
  go_enter Try.func26, Try.ntmps26
  go_wp2_with fail
  refine (l1draw_any cb _ (hc.stays bA)).mono ?_
  rintro e w1 ⟨ov, q, rfl, hO1, hS1, hc1, hg1, hz1⟩
  rw [World.size_alloc] at hO1 hz1
  obtain ⟨a0, c0, rfl⟩ := owns_form hO1.row
  have hB2 := below_alloc w1 (Obj.cells #[.slice a0 q.length c0] 25)
  have hO2 := hO1.stays hB2
  have hR2 : BR w cb w1.heap.size (.slice a0 q.length c0) (w1.alloc (Obj.cells #[.slice a0 q.length c0] 25)) :=
    { hcb := hcl, hbs := by omega, lt := by simp, g := gb_tr (gb_tr (gb_be _ bA) hg1) (gb_be _ hB2), cu := hc1.stays hB2,
      p0 := cell_stays hB2 ((hg1.cell_far _ (by simp) (by intro e; injection e with e; simp at e; omega)).trans (by simp [go_sem])),
      q0 := by
        rw [hB2.frozen (by show w.heap.size < _; omega)]
        exact (hg1.frozen_far _ (by simp) (by intro e; injection e with e; simp at e; omega)).trans (by simp [go_sem])
      p1 := by simp [go_sem], q1 := by simp [go_sem] }
  have hnb2 : ∀ g, ((Value.slice a0 q.length c0).ownBlock = some g ∨ ∃ i, i < q.length ∧ (qAt q i).2.ownBlock = some g) → g ≠ w1.heap.size := fun g hg => by have := (hO1.base hg).2; omega
  have hS2 : Sm2 (qchs q) := Sm2.of hS1 (Nat.le_refl _)
  have hpos : ∀ i, i < q.length → 0 < (qAt q i).1.l.length ∧ (qAt q i).1.l.length ≤ 12 := fun i hi => by
    have := hS1.at (i := i) (by rw [qchs_length]; exact hi)
    rw [qchs_at q hi] at this
    exact ⟨this.1, this.2.1⟩
  have hql : q.length ≤ 12 := by have := hS1.1; rwa [qchs_length] at this
  have HP : Hid (∀ i, i < q.length → 0 < (qAt q i).1.l.length ∧ (qAt q i).1.l.length ≤ 12) := hpos
  generalize hbsd : w1.heap.size = bs at hR2 hnb2
  have hlt2 := hR2.lt
  have hbs2 := hR2.hbs
  have p1 := hR2.p1
  have p0 := hR2.p0
  have q0 := hR2.q0
  clear hS1 hc1 hg1 bA hO1 hpos hB2 hz1 hc
  by_cases hq : q.length = 0
  · have hq' : ((q.length : Int) == 0) = true := by simp [hq]
    have hE := hO2.done hR2 hS2
    subst hbsd
    clear hq hql hS2 hR2 hnb2 HP hO2 hlt2 hbs2 p1
    go_wp2
    refine bodyPost_ret (v := .agg #[.slice a0 q.length c0]) (by simp [results, Try.results26, go_sem, p0]) rfl ?_
    exact hE
  · have hq' : ((q.length : Int) == 0) = false := by rw [beq_eq_false_iff_ne]; omega
    subst hbsd
    go_wp2_with fail
    refine (l1Once_any cb 6 _ hR2.cu).mono ?_
    rintro e w3 ⟨⟨bo, rfl⟩, hc3, hg3⟩
    have hR3 := hR2.go hg3 hc3
    have hO3 := hO2.keep (w' := w3) fun g hg hl => hg3.block g hl (by intro e; injection e with e; have := (hO2.base hg).1; omega)
    generalize w1.heap.size = bs at *
    clear hR2 hO2 hg3 hc3 hlt2 p1 p0 q0
    have p1 := hR3.p1
    have p0 := hR3.p0
    have q0 := hR3.q0
    cases bo with
    | false =>
      have hE := hO3.done hR3 hS2
      clear hq hql hS2 hR3 hnb2 HP hO3 hbs2
      go_wp2
      refine bodyPost_ret (v := .agg #[.slice a0 q.length c0]) (by simp [results, Try.results26, go_sem, p0]) rfl ?_
      exact hE
    | true =>
      go_wp2_with fail
      refine (l1Below_any cb _ _ hR3.cu).mono ?_
      rintro e w4 ⟨⟨x4, rfl, hx40, hx41⟩, hc4, hg4⟩
      have hx42 := hx41 (by omega)
      have hR4 := hR3.go hg4 hc4
      have hO4 := hO3.keep (w' := w4) fun g hg hl => hg4.block g hl (by intro e; injection e with e; have := (hO3.base hg).1; omega)
      clear hR3 hO3 hg4 hc4 p1 p0 q0 hx41
      obtain ⟨i, rfl⟩ : ∃ i : Nat, x4 = (i : Int) := ⟨x4.toNat, by omega⟩
      have hi : i < q.length := by omega
      go_wp2_with fail
      refine (l1Below_any cb 5 _ hR4.cu).mono ?_
      rintro e w5 ⟨⟨x5, rfl, hx50, hx51⟩, hc5, hg5⟩
      have hR5 := hR4.go hg5 hc5
      have hO5 := hO4.keep (w' := w5) fun g hg hl => hg5.block g hl (by intro e; injection e with e; have := (hO4.base hg).1; omega)
      have hx52 := hx51 (by omega)
      clear hR4 hO4 hg5 hc5 hx51
      have p1 := hR5.p1
      have p0 := hR5.p0
      have q0 := hR5.q0
      obtain ⟨g0, rfl, hg0⟩ : ∃ g0, a0 = some ⟨g0, 0, none⟩ ∧ w.heap.size + 3 ≤ g0 := by
        obtain ⟨g0, cap0, e, h1, _⟩ := hO5.row.form (by omega)
        cases e
        exact ⟨g0, rfl, h1⟩
      have hat := (hS2.at (i := i) (by rw [qchs_length]; exact hi))
      rw [qchs_at q hi] at hat
      have hneb : g0 ≠ bs := hnb2 g0 (.inl rfl)
      have i0' : (0 : Int) ≤ (i : Int) := by omega
      have i1' : (i : Int) < (q.length : Int) := by omega
      have bD := (Below.refl w5.heap.size w5).drew
      by_cases z0 : x5 = 0
      · subst z0
        go_wp2_with fail
        refine region_last (fun x => x.cell? ⟨bs, 0, none⟩ = some (.slice (some ⟨g0, 0, none⟩) q.length c0)) (by kernel_rfl) (by kernel_rfl) (by kernel_rfl) p1 (fun hHeld => ?_)
        simp only [List.dropLast, List.length_cons, List.length_nil, Nat.reduceAdd]
        refine takeL (i := 0) (v := ?_) rfl (by kernel_rfl) (by kernel_rfl) (by kernel_rfl) (fun _ _ _ h => h) rfl (by assumption) ?_ ?_
        rotate_left
        · (intro wS hSw; (try dsimp only at hSw); go_simp; try with_reducible rfl)
        (try simp only [Act.put, List.setIfInBounds_toArray, List.set_cons_zero, List.set_cons_succ])
        refine takeL (i := 1) (v := ?_) rfl (by kernel_rfl) (by kernel_rfl) (by kernel_rfl) (fun _ _ _ h => h) rfl (by assumption) ?_ ?_
        rotate_left
        · (intro wS hSw; (try dsimp only at hSw); go_simp; try with_reducible rfl)
        (try simp only [Act.put, List.setIfInBounds_toArray, List.set_cons_zero, List.set_cons_succ])
        refine takeL (i := 2) (v := ?_) rfl (by kernel_rfl) (by kernel_rfl) (by kernel_rfl) (fun _ _ _ h => h) rfl (by assumption) ?_ ?_
        rotate_left
        · (intro wS hSw; (try dsimp only at hSw); go_simp; try with_reducible rfl)
        (try simp only [Act.put, List.setIfInBounds_toArray, List.set_cons_zero, List.set_cons_succ])
        refine takeL (i := 3) (v := ?_) rfl (by kernel_rfl) (by kernel_rfl) (by kernel_rfl) (fun _ _ _ h => h) rfl (by assumption) ?_ ?_
        rotate_left
        · (intro wS hSw; (try dsimp only at hSw); go_simp; try with_reducible rfl)
        (try simp only [Act.put, List.setIfInBounds_toArray, List.set_cons_zero, List.set_cons_succ])
        refine stepL (i := 4) rfl (by kernel_rfl) (fun K hK => ?_)
        rw [if_pos (by rfl)]
        go_simp
        have b6 : Below w5.heap.size w5 (w5.alloc (Obj.cells #[.int .i64 (-1), .int .i64 4, .int .i64 5] 3)).drew := ((Below.refl w5.heap.size w5).alloc (Nat.le_refl _) _).drew
        have hR6 := hR5.go (gb_be _ b6) (hR5.cu.stays b6)
        have hO6 := hO5.stays b6
        refine hK.out _ _ (cell_stays b6 p1) (fun hHeld2 => ?_)
        clear hK K hHeld
        (try simp only [Act.put, List.setIfInBounds_toArray, List.set_cons_zero, List.set_cons_succ])
        refine stepL (i := 5) rfl (by kernel_rfl) (fun K hK => ?_)
        rw [if_pos (by rfl)]
        go_simp
        refine (l1PickInt_any cb w5.heap.size 0 3 3 (pick3 (-1) 4 5) _ hR6.cu (by omega) (by omega) (three_at w5 (-1) 4 5 3) (by have := hR5.lt; omega)).mono ?_
        rintro e w7 ⟨⟨j, hj, rfl⟩, hc7, hg7⟩
        have hk : -10 ≤ pick3 (-1) 4 5 j ∧ pick3 (-1) 4 5 j ≤ 10 := by
          match j, hj with
          | 0, _ => decide
          | 1, _ => decide
          | 2, _ => decide
        have hR7 := hR6.go hg7 hc7
        have hO7 := hO6.keep (w' := w7) fun g hg hl => hg7.block g hl (by intro e; injection e with e; have := (hO6.base hg).1; omega)
        refine hK.out _ _ hR7.p1 (fun hHeld3 => ?_)
        clear hK K hHeld2 hR6 hO6 b6 hg7 hc7
        (try simp only [Act.put, List.setIfInBounds_toArray, List.set_cons_zero, List.set_cons_succ])
        refine takeL (i := 6) (v := ?_) rfl (by kernel_rfl) (by kernel_rfl) (by kernel_rfl) (fun _ _ _ h => h) rfl (by assumption) ?_ ?_
        rotate_left
        · (intro wS hSw; (try dsimp only at hSw); go_simp; try with_reducible rfl)
        (try simp only [Act.put, List.setIfInBounds_toArray, List.set_cons_zero, List.set_cons_succ])
        refine takeL (i := 7) (v := ?_) rfl (by kernel_rfl) (by kernel_rfl) (by kernel_rfl) (fun _ _ _ h => h) rfl (by assumption) ?_ ?_
        rotate_left
        · (intro wS hSw; (try dsimp only at hSw); go_simp; try with_reducible rfl)
        (try simp only [Act.put, List.setIfInBounds_toArray, List.set_cons_zero, List.set_cons_succ])
        refine takeL (i := 8) (v := ?_) rfl (by kernel_rfl) (by kernel_rfl) (by kernel_rfl) (fun _ _ _ h => h) rfl (by assumption) ?_ ?_
        rotate_left
        · (intro wS hSw; (try dsimp only at hSw); go_simp; try with_reducible rfl)
        (try simp only [Act.put, List.setIfInBounds_toArray, List.set_cons_zero, List.set_cons_succ])
        clear hHeld3
        refine wpAnyH_done (by kernel_rfl) ?_ _
        refine lastL (n := 9) rfl rfl ?_
        generalize pick3 (-1) 4 5 j = kk at hk
        have cT : w7.cell? ⟨g0, i * 3, none⟩ = some (.int .i64 (qAt q i).1.t) := by rw [hO7.row.cellAt _ (by omega), (qcells_get q i hi).1]
        have fT : w7.frozen? ⟨g0, i * 3, none⟩ = false := hO7.row.frozenAt _
        go_simp
        have hO8 := hO7.setT hi kk
        have hR8 : BR w cb bs (.slice (some ⟨g0, 0, none⟩) q.length c0) (w7.setCell ⟨g0, i * 3, none⟩ (.int .i64 kk)) := hR7.turn rfl rfl rfl (by rw [size_setCell]; exact Nat.le_refl _) (fun k hk => Below.heap_setCell _ _ _ _ (by rcases hk with h | h; (show k ≠ g0; omega); (show k ≠ g0; rw [h]; exact Ne.symm hneb)))
        have hS8 : Sm2 (qchs (q.set i (⟨kk, (qAt q i).1.r, (qAt q i).1.l⟩, (qAt q i).2))) := by rw [qchs_set]; exact hS2.set i hat.1 ⟨hk, hat.2.2⟩
        have hE := hO8.done hR8 hS8
        have p1' := hR8.p1
        have p0' := hR8.p0
        have q0' := hR8.q0
        clear hO8 hR8 hS8 hO7 hR7 hO5 hR5 p1 p0 q0 cT fT hS2 HP hnb2
        go_wp2
        refine bodyPost_ret (v := .agg #[.slice (some ⟨g0, 0, none⟩) q.length c0]) (by simp [results, Try.results26, go_sem, p0']) rfl ?_
        exact hE
      by_cases z1 : x5 = 1
      · subst z1
        obtain ⟨g1, cap1, hlv, hg1, hg1l⟩ := (hO5.lists i hi).form (by have := (HP.out i hi).1; omega)
        have hl0 := (HP.out i hi).1
        have hne1 : g1 ≠ bs := hnb2 g1 (.inr ⟨i, hi, by rw [hlv]; rfl⟩)
        have cL : w5.cell? ⟨g0, i * 3 + 2, none⟩ = some (.slice (some ⟨g1, 0, none⟩) (qAt q i).1.l.length cap1) := by rw [hO5.row.cellAt _ (by omega), (qcells_get q i hi).2.2, hlv]
        have l0' : (0 : Int) < ((qAt q i).1.l.length : Int) := by omega
        clear z0
        go_wp2_with fail
        refine region_last (fun x => x.cell? ⟨bs, 0, none⟩ = some (.slice (some ⟨g0, 0, none⟩) q.length c0) ∧ x.cell? ⟨g0, i * 3 + 2, none⟩ = some (.slice (some ⟨g1, 0, none⟩) (qAt q i).1.l.length cap1)) (by kernel_rfl) (by kernel_rfl) (by kernel_rfl) ⟨p1, cL⟩ (fun hHeld => ?_)
        simp only [List.dropLast, List.length_cons, List.length_nil, Nat.reduceAdd]
        refine takeL (i := 0) (v := ?_) rfl (by kernel_rfl) (by kernel_rfl) (by kernel_rfl) (fun _ _ _ h => h) rfl (by assumption) ?_ ?_
        rotate_left
        · (intro wS hSw; (try dsimp only at hSw); go_simp; try with_reducible rfl)
        (try simp only [Act.put, List.setIfInBounds_toArray, List.set_cons_zero, List.set_cons_succ])
        refine takeL (i := 1) (v := ?_) rfl (by kernel_rfl) (by kernel_rfl) (by kernel_rfl) (fun _ _ _ h => h) rfl (by assumption) ?_ ?_
        rotate_left
        · (intro wS hSw; (try dsimp only at hSw); go_simp; try with_reducible rfl)
        (try simp only [Act.put, List.setIfInBounds_toArray, List.set_cons_zero, List.set_cons_succ])
        refine takeL (i := 2) (v := ?_) rfl (by kernel_rfl) (by kernel_rfl) (by kernel_rfl) (fun _ _ _ h => h) rfl (by assumption) ?_ ?_
        rotate_left
        · (intro wS hSw; (try dsimp only at hSw); go_simp; try with_reducible rfl)
        (try simp only [Act.put, List.setIfInBounds_toArray, List.set_cons_zero, List.set_cons_succ])
        refine takeL (i := 3) (v := ?_) rfl (by kernel_rfl) (by kernel_rfl) (by kernel_rfl) (fun _ _ _ h => h) rfl (by assumption) ?_ ?_
        rotate_left
        · (intro wS hSw; (try dsimp only at hSw); go_simp; try with_reducible rfl)
        (try simp only [Act.put, List.setIfInBounds_toArray, List.set_cons_zero, List.set_cons_succ])
        refine takeL (i := 4) (v := ?_) rfl (by kernel_rfl) (by kernel_rfl) (by kernel_rfl) (fun _ _ _ h => h) rfl (by assumption) ?_ ?_
        rotate_left
        · (intro wS hSw; (try dsimp only at hSw); go_simp; try with_reducible rfl)
        (try simp only [Act.put, List.setIfInBounds_toArray, List.set_cons_zero, List.set_cons_succ])
        refine takeL (i := 5) (v := ?_) rfl (by kernel_rfl) (by kernel_rfl) (by kernel_rfl) (fun _ _ _ h => h) rfl (by assumption) ?_ ?_
        rotate_left
        · (intro wS hSw; (try dsimp only at hSw); go_simp; try with_reducible rfl)
        (try simp only [Act.put, List.setIfInBounds_toArray, List.set_cons_zero, List.set_cons_succ])
        refine takeL (i := 6) (v := ?_) rfl (by kernel_rfl) (by kernel_rfl) (by kernel_rfl) (fun _ _ _ h => h) rfl (by assumption) ?_ ?_
        rotate_left
        · (intro wS hSw; (try dsimp only at hSw); go_simp; try with_reducible rfl)
        (try simp only [Act.put, List.setIfInBounds_toArray, List.set_cons_zero, List.set_cons_succ])
        refine stepL (i := 7) rfl (by kernel_rfl) (fun K hK => ?_)
        rw [if_pos (by rfl)]
        go_simp
        have b6 : Below w5.heap.size w5 (w5.alloc (Obj.cells #[.int .i64 0, .int .i64 1000000, .int .i64 1000001, .int .i64 3] 3)).drew := ((Below.refl w5.heap.size w5).alloc (Nat.le_refl _) _).drew
        have hR6 := hR5.go (gb_be _ b6) (hR5.cu.stays b6)
        have hO6 := hO5.stays b6
        refine hK.out _ _ ⟨cell_stays b6 p1, cell_stays b6 cL⟩ (fun hHeld2 => ?_)
        clear hK K hHeld
        (try simp only [Act.put, List.setIfInBounds_toArray, List.set_cons_zero, List.set_cons_succ])
        refine stepL (i := 8) rfl (by kernel_rfl) (fun K hK => ?_)
        rw [if_pos (by rfl)]
        go_simp
        refine (l1PickInt_any cb w5.heap.size 0 4 4 (pick4 0 1000000 1000001 3) _ hR6.cu (by omega) (by omega) (four_at w5 0 1000000 1000001 3 3) (by have := hR5.lt; omega)).mono ?_
        rintro e w7 ⟨⟨j, hj, rfl⟩, hc7, hg7⟩
        have hR7 := hR6.go hg7 hc7
        have hO7 := hO6.keep (w' := w7) fun g hg hl => hg7.block g hl (by intro e; injection e with e; have := (hO6.base hg).1; omega)
        have cL7 : w7.cell? ⟨g0, i * 3 + 2, none⟩ = some (.slice (some ⟨g1, 0, none⟩) (qAt q i).1.l.length cap1) := by rw [hO7.row.cellAt _ (by omega), (qcells_get q i hi).2.2, hlv]
        refine hK.out _ _ ⟨hR7.p1, cL7⟩ (fun hHeld3 => ?_)
        clear hK K hHeld2 hR6 hO6 b6 hg7 hc7
        (try simp only [Act.put, List.setIfInBounds_toArray, List.set_cons_zero, List.set_cons_succ])
        refine takeL (i := 9) (v := ?_) rfl (by kernel_rfl) (by kernel_rfl) (by kernel_rfl) (fun _ _ _ h => h) rfl (by assumption) ?_ ?_
        rotate_left
        · (intro wS hSw; (try dsimp only at hSw); go_simp; try with_reducible rfl)
        (try simp only [Act.put, List.setIfInBounds_toArray, List.set_cons_zero, List.set_cons_succ])
        refine takeL (i := 10) (v := ?_) rfl (by kernel_rfl) (by kernel_rfl) (by kernel_rfl) (fun _ _ _ h => h) rfl (by assumption) ?_ ?_
        rotate_left
        · (intro wS hSw; (try dsimp only at hSw); go_simp; try with_reducible rfl)
        (try simp only [Act.put, List.setIfInBounds_toArray, List.set_cons_zero, List.set_cons_succ])
        clear hHeld3
        refine wpAnyH_done (by kernel_rfl) ?_ _
        refine lastL (n := 11) rfl rfl ?_
        generalize pick4 0 1000000 1000001 3 j = kk
        have hrl := hO7.lists i hi
        rw [hlv] at hrl
        obtain ⟨cA, hcA⟩ : ∃ u, w7.cell? ⟨g1, 0, none⟩ = some u := by
          have e := hrl.cellAt 0 (by omega)
          have hvl : 0 < (vcells (qAt q i).1.l).length := by rw [vcells_length]; omega
          rw [List.getElem?_eq_getElem hvl] at e
          exact ⟨_, e⟩
        have fA : w7.frozen? ⟨g1, 0, none⟩ = false := hrl.frozenAt _
        go_simp
        have hO8 := hO7.setA hi hl0 hlv kk
        have hR8 : BR w cb bs (.slice (some ⟨g0, 0, none⟩) q.length c0) (w7.setCell ⟨g1, 0, none⟩ (.int .i64 kk)) := hR7.turn rfl rfl rfl (by rw [size_setCell]; exact Nat.le_refl _) (fun k hk => Below.heap_setCell _ _ _ _ (by rcases hk with h | h; (show k ≠ g1; omega); (show k ≠ g1; rw [h]; exact Ne.symm hne1)))
        have hS8 : Sm2 (qchs (q.set i (⟨(qAt q i).1.t, (qAt q i).1.r, (qAt q i).1.l.set 0 (kk, (vAt (qAt q i).1.l 0).2)⟩, (qAt q i).2))) := by rw [qchs_set]; exact hS2.set i (by show (List.set _ _ _).length ≤ 200; rw [List.length_set]; exact hat.1) hat.2
        have hE := hO8.done hR8 hS8
        have p1' := hR8.p1
        have p0' := hR8.p0
        have q0' := hR8.q0
        clear hO8 hR8 hS8 hO7 hR7 hO5 hR5 p1 p0 q0 hcA fA hS2 HP hnb2 hrl cL cL7
        go_wp2
        refine bodyPost_ret (v := .agg #[.slice (some ⟨g0, 0, none⟩) q.length c0]) (by simp [results, Try.results26, go_sem, p0']) rfl ?_
        exact hE
      by_cases z3 : x5 = 3
      · subst z3
        have cL : w5.cell? ⟨g0, i * 3 + 2, none⟩ = some (qAt q i).2 := by rw [hO5.row.cellAt _ (by omega), (qcells_get q i hi).2.2]
        have fL : w5.frozen? ⟨g0, i * 3 + 2, none⟩ = false := hO5.row.frozenAt _
        have hO8 := hO5.setNil hi
        have hR8 : BR w cb bs (.slice (some ⟨g0, 0, none⟩) q.length c0) (w5.setCell ⟨g0, i * 3 + 2, none⟩ (.slice none 0 0)) := hR5.turn rfl rfl rfl (by rw [size_setCell]; exact Nat.le_refl _) (fun k hk => Below.heap_setCell _ _ _ _ (by rcases hk with h | h; (show k ≠ g0; omega); (show k ≠ g0; rw [h]; exact Ne.symm hneb)))
        have hS8 : Sm2 (qchs (q.set i (⟨(qAt q i).1.t, (qAt q i).1.r, []⟩, .slice none 0 0))) := by rw [qchs_set]; exact hS2.set i (by simp) hat.2
        have hE := hO8.done hR8 hS8
        have p1' := hR8.p1
        have p0' := hR8.p0
        have q0' := hR8.q0
        clear hO8 hR8 hS8 hO5 hR5 hS2 HP hnb2 z0 z1
        go_wp2
        refine bodyPost_ret (v := .agg #[.slice (some ⟨g0, 0, none⟩) q.length c0]) (by simp [results, Try.results26, go_sem, p0']) rfl ?_
        exact hE
      by_cases z2 : x5 = 2
      · subst z2
        obtain ⟨ic, hIc, hy0, hy1, hy2⟩ := info_parts infoChain'
        obtain ⟨al, cl, hlv⟩ := owns_form (hO5.lists i hi)
        have cT : w5.cell? ⟨g0, i * 3, none⟩ = some (.int .i64 (qAt q i).1.t) := by rw [hO5.row.cellAt _ (by omega), (qcells_get q i hi).1]
        have cR : w5.cell? ⟨g0, i * 3 + 1, none⟩ = some (.int .i64 (qAt q i).1.r) := by rw [hO5.row.cellAt _ (by omega), (qcells_get q i hi).2.1]
        have cL : w5.cell? ⟨g0, i * 3 + 1 + 1, none⟩ = some (.slice al (qAt q i).1.l.length cl) := by rw [show i * 3 + 1 + 1 = i * 3 + 2 from rfl, hO5.row.cellAt _ (by omega), (qcells_get q i hi).2.2, hlv]
        clear z0 z1 z3
        go_wp2_with fail
        have fbs : w5.frozen? ⟨bs, 0, none⟩ = false := hR5.q1
        have hfr : ∀ o, (w5.alloc o).drew.frozen? ⟨bs, 0, none⟩ = false := fun o => by
          show (w5.alloc o).frozen? ⟨bs, 0, none⟩ = false
          rw [(below_alloc w5 o).frozen hR5.lt]; exact fbs
        have HF : Hid (∀ o, (w5.alloc o).drew.frozen? ⟨bs, 0, none⟩ = false) := hfr
        clear hfr
        have pA : (w5.alloc (Obj.cells #[.int .i64 (qAt q i).1.t, .int .i64 (qAt q i).1.r, .slice al (qAt q i).1.l.length cl] 49)).cell? ⟨bs, 0, none⟩ = some (.slice (some ⟨g0, 0, none⟩) q.length c0) := cell_stays (below_alloc w5 _) p1
        go_region_law ((refine step_append_lies _ (by rfl) _ _ _ (by rfl) (w.heap.size + 1 + 2) 49 ic _ 3 40 Try.underlying23 hIc hy0 hy1 hy2 rfl (by omega) (.slice (some ⟨g0, 0, none⟩) q.length c0) q.length (qcells q) (by rfl) ((hO5.row.alloc _).drew) ⟨w5.heap.size, 0, none⟩ 1 1 (qcell ((qAt q i).1, .slice al (qAt q i).1.l.length cl)) (by rfl) (by rfl) (World.news_of_block (heap_alloc_new w5 _)) (by simp [qcell, Value.oneCell']) (by omega) (by unfold maxLen; omega) (by omega) (by show _ ≤ (w5.alloc _).heap.size; have := hR5.lt; simp; omega) (w5.heap.size + 1) (by show (w5.alloc _).heap.size = _; simp) ?_; intro gg cap8 w8 hown8 hgrow8 hat8 hlt8; have g8b : w8.cell? ⟨bs, 0, none⟩ = some (.slice (some ⟨g0, 0, none⟩) q.length c0) := (hgrow8.cell_far _ (by show bs < (w5.alloc _).heap.size; have := hR5.lt; simp; omega) (by intro e; injection e with e; exact hneb e.symm)).trans (cell_stays (below_alloc w5 _) p1); have g8f : w8.frozen? ⟨bs, 0, none⟩ = false := (hgrow8.frozen_far _ (by show bs < (w5.alloc _).heap.size; have := hR5.lt; simp; omega) (by intro e; injection e with e; exact hneb e.symm)).trans (HF.out _)))
        all_goals (
          rw [← hlv] at hown8
          obtain ⟨hR9, hE⟩ := bent_app hR5 hO5 hi hql hS2 hg0 hnb2 hown8 hgrow8 hat8
          have p1' := hR9.p1
          have p0' := hR9.p0
          have q0' := hR9.q0
          clear hR9 hR5 hO5 hS2 HP hnb2 hown8 hgrow8 hat8 g8b g8f pA HF
          go_wp2
          refine bodyPost_ret (v := .agg #[.slice (some ⟨gg, 0, none⟩) (q.length + 1) cap8]) (by simp [results, Try.results26, go_sem, p0']) rfl ?_
          exact hE)
      obtain rfl : x5 = 4 := by omega
      clear z0 z1 z2 z3 hx52
      have hbv := build_ver1
      go_wp2_with fail
      go_loopw [24] (fun x wr => ∃ qk : List Qc, BR w cb bs (.slice (some ⟨g0, 0, none⟩) q.length c0) wr ∧ OwnQ (w.heap.size + 3) wr (.slice (some ⟨g0, 0, none⟩) q.length c0) qk ∧ (qk.length ≤ q.length ∧ q.length ≤ qk.length) ∧ (0 < (qAt qk i).1.l.length ∧ (qAt qk i).1.l.length ≤ 200) ∧ Sm2 (qchs qk) ∧ (∀ g, ((Value.slice (some ⟨g0, 0, none⟩) q.length c0).ownBlock = some g ∨ ∃ i, i < qk.length ∧ (qAt qk i).2.ownBlock = some g) → g ≠ bs)) (fun _ wr => lenM g0 i wr)
      case atStart => exact ⟨q, hR5, hO5, ⟨Nat.le_refl _, Nat.le_refl _⟩, ⟨(HP.out i hi).1, by have := (HP.out i hi).2; omega⟩, hS2, hnb2⟩
      case round =>
        rename World => wo
        clear hR5 hO5 hS2 hnb2 p1 p0 q0 hat HP bD
        obtain ⟨qk, hRk, hOk, ⟨hqa, hqb⟩, ⟨hl0, hl2⟩, hSk, hnbk⟩ := hrel
        have hik : i < qk.length := by omega
        obtain ⟨g1, cap1, hlv, hg1, hg1l⟩ := (hOk.lists i hik).form (by omega)
        have hrowk : wo.ownsRow (w.heap.size + 3) 49 3 (.slice (some ⟨g0, 0, none⟩) q.length c0) q.length (qcells qk) := by
          have h := hOk.row
          rw [show qk.length = q.length by omega] at h
          exact h
        have cL : wo.cell? ⟨g0, i * 3 + 2, none⟩ = some (.slice (some ⟨g1, 0, none⟩) (qAt qk i).1.l.length cap1) := by rw [hrowk.cellAt _ (by omega), (qcells_get qk i hik).2.2, hlv]
        have p1 := hRk.p1
        have p0 := hRk.p0
        have q0 := hRk.q0
        by_cases hlt : (qAt qk i).1.l.length < 200
        · have cA : wo.cell? ⟨g1, ((qAt qk i).1.l.length - 1) * 2, none⟩ = some (.int .i64 (vAt (qAt qk i).1.l ((qAt qk i).1.l.length - 1)).1) := by
            have h1 := hOk.lists i hik
            rw [hlv] at h1
            rw [h1.cellAt _ (by omega), (vcells_get _ _ (by omega)).1]
          have fL : wo.frozen? ⟨g0, i * 3 + 2, none⟩ = false := hrowk.frozenAt _
          have l0' : (0 : Int) < ((qAt qk i).1.l.length : Int) := by omega
          have l1' : ((qAt qk i).1.l.length : Int) < 200 := by omega
          obtain ⟨p, hp⟩ : ∃ p, (qAt qk i).1.l.length = p + 1 := ⟨(qAt qk i).1.l.length - 1, by omega⟩
          rw [hp] at cL cA hlv l0' l1'
          simp only [Nat.add_sub_cancel] at cA
          generalize hA : (vAt (qAt qk i).1.l p).1 = A at cA
          have HPE : Hid ((qAt qk i).1.l.length = p + 1) := hp
          have HA : Hid ((vAt (qAt qk i).1.l p).1 = A) := hA
          have hlvH : Hid ((qAt qk i).2 = .slice (some ⟨g1, 0, none⟩) (p + 1) cap1) := hlv
          have j0' : (0 : Int) ≤ (p : Int) := by omega
          have hwp : IntKind.i64.wrap (p : Int) = (p : Int) := by rw [IntKind.wrap_i64]; omega
          have hp200 : p + 1 < 200 := by omega
          have j1' : (p : Int) < (p : Int) + 1 := by omega
          clear hp hlv hA
          go_wp2_with fail
          refine region_last (fun x => x.cell? ⟨bs, 0, none⟩ = some (.slice (some ⟨g0, 0, none⟩) q.length c0) ∧ x.cell? ⟨g0, i * 3 + 2, none⟩ = some (.slice (some ⟨g1, 0, none⟩) (p + 1) cap1) ∧ x.cell? ⟨g1, p * 2, none⟩ = some (.int .i64 A)) (by kernel_rfl) (by kernel_rfl) (by kernel_rfl) ⟨p1, cL, cA⟩ (fun hHeld => ?_)
          simp only [List.dropLast, List.length_cons, List.length_nil, Nat.reduceAdd]
          refine takeL (i := 0) (v := ?_) rfl (by kernel_rfl) (by kernel_rfl) (by kernel_rfl) (fun _ _ _ h => h) rfl (by assumption) ?_ ?_
          rotate_left
          · (intro wS hSw; (try dsimp only at hSw); go_simp; try with_reducible rfl)
          (try simp only [Act.put, List.setIfInBounds_toArray, List.set_cons_zero, List.set_cons_succ])
          refine takeL (i := 1) (v := ?_) rfl (by kernel_rfl) (by kernel_rfl) (by kernel_rfl) (fun _ _ _ h => h) rfl (by assumption) ?_ ?_
          rotate_left
          · (intro wS hSw; (try dsimp only at hSw); go_simp; try with_reducible rfl)
          (try simp only [Act.put, List.setIfInBounds_toArray, List.set_cons_zero, List.set_cons_succ])
          refine takeL (i := 2) (v := ?_) rfl (by kernel_rfl) (by kernel_rfl) (by kernel_rfl) (fun _ _ _ h => h) rfl (by assumption) ?_ ?_
          rotate_left
          · (intro wS hSw; (try dsimp only at hSw); go_simp; try with_reducible rfl)
          (try simp only [Act.put, List.setIfInBounds_toArray, List.set_cons_zero, List.set_cons_succ])
          refine takeL (i := 3) (v := ?_) rfl (by kernel_rfl) (by kernel_rfl) (by kernel_rfl) (fun _ _ _ h => h) rfl (by assumption) ?_ ?_
          rotate_left
          · (intro wS hSw; (try dsimp only at hSw); go_simp; try with_reducible rfl)
          (try simp only [Act.put, List.setIfInBounds_toArray, List.set_cons_zero, List.set_cons_succ])
          refine takeL (i := 4) (v := ?_) rfl (by kernel_rfl) (by kernel_rfl) (by kernel_rfl) (fun _ _ _ h => h) rfl (by assumption) ?_ ?_
          rotate_left
          · (intro wS hSw; (try dsimp only at hSw); go_simp; try with_reducible rfl)
          (try simp only [Act.put, List.setIfInBounds_toArray, List.set_cons_zero, List.set_cons_succ])
          refine takeL (i := 5) (v := ?_) rfl (by kernel_rfl) (by kernel_rfl) (by kernel_rfl) (fun _ _ _ h => h) rfl (by assumption) ?_ ?_
          rotate_left
          · (intro wS hSw; (try dsimp only at hSw); go_simp; try with_reducible rfl)
          (try simp only [Act.put, List.setIfInBounds_toArray, List.set_cons_zero, List.set_cons_succ])
          refine takeL (i := 6) (v := ?_) rfl (by kernel_rfl) (by kernel_rfl) (by kernel_rfl) (fun _ _ _ h => h) rfl (by assumption) ?_ ?_
          rotate_left
          · (intro wS hSw; (try dsimp only at hSw); go_simp; try with_reducible rfl)
          (try simp only [Act.put, List.setIfInBounds_toArray, List.set_cons_zero, List.set_cons_succ])
          refine takeL (i := 7) (v := ?_) rfl (by kernel_rfl) (by kernel_rfl) (by kernel_rfl) (fun _ _ _ h => h) rfl (by assumption) ?_ ?_
          rotate_left
          · (intro wS hSw; (try dsimp only at hSw); go_simp; try with_reducible rfl)
          (try simp only [Act.put, List.setIfInBounds_toArray, List.set_cons_zero, List.set_cons_succ])
          refine takeL (i := 8) (v := ?_) rfl (by kernel_rfl) (by kernel_rfl) (by kernel_rfl) (fun _ _ _ h => h) rfl (by assumption) ?_ ?_
          rotate_left
          · (intro wS hSw; (try dsimp only at hSw); go_simp; try with_reducible rfl)
          (try simp only [Act.put, List.setIfInBounds_toArray, List.set_cons_zero, List.set_cons_succ])
          refine takeL (i := 9) (v := ?_) rfl (by kernel_rfl) (by kernel_rfl) (by kernel_rfl) (fun _ _ _ h => h) rfl (by assumption) ?_ ?_
          rotate_left
          · (intro wS hSw; (try dsimp only at hSw); go_simp; try with_reducible rfl)
          (try simp only [Act.put, List.setIfInBounds_toArray, List.set_cons_zero, List.set_cons_succ])
          refine takeL (i := 10) (v := ?_) rfl (by kernel_rfl) (by kernel_rfl) (by kernel_rfl) (fun _ _ _ h => h) rfl (by assumption) ?_ ?_
          rotate_left
          · (intro wS hSw; (try dsimp only at hSw); go_simp; try with_reducible rfl)
          (try simp only [Act.put, List.setIfInBounds_toArray, List.set_cons_zero, List.set_cons_succ])
          refine takeL (i := 11) (v := ?_) rfl (by kernel_rfl) (by kernel_rfl) (by kernel_rfl) (fun _ _ _ h => h) rfl (by assumption) ?_ ?_
          rotate_left
          · (intro wS hSw; (try dsimp only at hSw); go_simp; try with_reducible rfl)
          (try simp only [Act.put, List.setIfInBounds_toArray, List.set_cons_zero, List.set_cons_succ])
          refine takeL (i := 12) (v := ?_) rfl (by kernel_rfl) (by kernel_rfl) (by kernel_rfl) (fun _ _ _ h => h) rfl (by assumption) ?_ ?_
          rotate_left
          · (intro wS hSw; (try dsimp only at hSw); go_simp; try with_reducible rfl)
          (try simp only [Act.put, List.setIfInBounds_toArray, List.set_cons_zero, List.set_cons_succ])
          refine takeL (i := 13) (v := ?_) rfl (by kernel_rfl) (by kernel_rfl) (by kernel_rfl) (fun _ _ _ h => h) rfl (by assumption) ?_ ?_
          rotate_left
          · (intro wS hSw; (try dsimp only at hSw); go_simp; try with_reducible rfl)
          (try simp only [Act.put, List.setIfInBounds_toArray, List.set_cons_zero, List.set_cons_succ])
          refine takeL (i := 14) (v := ?_) rfl (by kernel_rfl) (by kernel_rfl) (by kernel_rfl) (fun _ _ _ h => h) rfl (by assumption) ?_ ?_
          rotate_left
          · (intro wS hSw; (try dsimp only at hSw); go_simp; try with_reducible rfl)
          (try simp only [Act.put, List.setIfInBounds_toArray, List.set_cons_zero, List.set_cons_succ])
          refine takeL (i := 15) (v := ?_) rfl (by kernel_rfl) (by kernel_rfl) (by kernel_rfl) (fun _ _ _ h => h) rfl (by assumption) ?_ ?_
          rotate_left
          · (intro wS hSw; (try dsimp only at hSw); go_simp; try with_reducible rfl)
          (try simp only [Act.put, List.setIfInBounds_toArray, List.set_cons_zero, List.set_cons_succ])
          refine takeL (i := 16) (v := ?_) rfl (by kernel_rfl) (by kernel_rfl) (by kernel_rfl) (fun _ _ _ h => h) rfl (by assumption) ?_ ?_
          rotate_left
          · (intro wS hSw; (try dsimp only at hSw); go_simp; try with_reducible rfl)
          (try simp only [Act.put, List.setIfInBounds_toArray, List.set_cons_zero, List.set_cons_succ])
          refine takeL (i := 17) (v := ?_) rfl (by kernel_rfl) (by kernel_rfl) (by kernel_rfl) (fun _ _ _ h => h) rfl (by assumption) ?_ ?_
          rotate_left
          · (intro wS hSw; (try dsimp only at hSw); go_simp; try with_reducible rfl)
          (try simp only [Act.put, List.setIfInBounds_toArray, List.set_cons_zero, List.set_cons_succ])
          refine takeL (i := 18) (v := ?_) rfl (by kernel_rfl) (by kernel_rfl) (by kernel_rfl) (fun _ _ _ h => h) rfl (by assumption) ?_ ?_
          rotate_left
          · (intro wS hSw; (try dsimp only at hSw); go_simp; try with_reducible rfl)
          (try simp only [Act.put, List.setIfInBounds_toArray, List.set_cons_zero, List.set_cons_succ])
          refine takeL (i := 19) (v := ?_) rfl (by kernel_rfl) (by kernel_rfl) (by kernel_rfl) (fun _ _ _ h => h) rfl (by assumption) ?_ ?_
          rotate_left
          · (intro wS hSw; (try dsimp only at hSw); go_simp; try with_reducible rfl)
          (try simp only [Act.put, List.setIfInBounds_toArray, List.set_cons_zero, List.set_cons_succ])
          refine takeL (i := 20) (v := ?_) rfl (by kernel_rfl) (by kernel_rfl) (by kernel_rfl) (fun _ _ _ h => h) rfl (by assumption) ?_ ?_
          rotate_left
          · (intro wS hSw; (try dsimp only at hSw); go_simp; try with_reducible rfl)
          (try simp only [Act.put, List.setIfInBounds_toArray, List.set_cons_zero, List.set_cons_succ])
          refine takeL (i := 21) (v := ?_) rfl (by kernel_rfl) (by kernel_rfl) (by kernel_rfl) (fun _ _ _ h => h) rfl (by assumption) ?_ ?_
          rotate_left
          · (intro wS hSw; (try dsimp only at hSw); go_simp; try with_reducible rfl)
          (try simp only [Act.put, List.setIfInBounds_toArray, List.set_cons_zero, List.set_cons_succ])
          refine takeL (i := 22) (v := ?_) rfl (by kernel_rfl) (by kernel_rfl) (by kernel_rfl) (fun _ _ _ h => h) rfl (by assumption) ?_ ?_
          rotate_left
          · (intro wS hSw; (try dsimp only at hSw); go_simp; try with_reducible rfl)
          (try simp only [Act.put, List.setIfInBounds_toArray, List.set_cons_zero, List.set_cons_succ])
          refine takeL (i := 23) (v := ?_) rfl (by kernel_rfl) (by kernel_rfl) (by kernel_rfl) (fun _ _ _ h => h) rfl (by assumption) ?_ ?_
          rotate_left
          · (intro wS hSw; (try dsimp only at hSw); go_simp; try with_reducible rfl)
          (try simp only [Act.put, List.setIfInBounds_toArray, List.set_cons_zero, List.set_cons_succ])
          refine takeL (i := 24) (v := ?_) rfl (by kernel_rfl) (by kernel_rfl) (by kernel_rfl) (fun _ _ _ h => h) rfl (by assumption) ?_ ?_
          rotate_left
          · (intro wS hSw; (try dsimp only at hSw); go_simp; try with_reducible rfl)
          (try simp only [Act.put, List.setIfInBounds_toArray, List.set_cons_zero, List.set_cons_succ])
          refine takeL (i := 25) (v := ?_) rfl (by kernel_rfl) (by kernel_rfl) (by kernel_rfl) (fun _ _ _ h => h) rfl (by assumption) ?_ ?_
          rotate_left
          · (intro wS hSw; (try dsimp only at hSw); go_simp; try with_reducible rfl)
          (try simp only [Act.put, List.setIfInBounds_toArray, List.set_cons_zero, List.set_cons_succ])
          refine takeL (i := 26) (v := ?_) rfl (by kernel_rfl) (by kernel_rfl) (by kernel_rfl) (fun _ _ _ h => h) rfl (by assumption) ?_ ?_
          rotate_left
          · (intro wS hSw; (try dsimp only at hSw); go_simp; try with_reducible rfl)
          (try simp only [Act.put, List.setIfInBounds_toArray, List.set_cons_zero, List.set_cons_succ])
          refine takeL (i := 27) (v := ?_) rfl (by kernel_rfl) (by kernel_rfl) (by kernel_rfl) (fun _ _ _ h => h) rfl (by assumption) ?_ ?_
          rotate_left
          · (intro wS hSw; (try dsimp only at hSw); go_simp; try with_reducible rfl)
          (try simp only [Act.put, List.setIfInBounds_toArray, List.set_cons_zero, List.set_cons_succ])
          refine stepL (i := 28) rfl (by kernel_rfl) (fun K hK => ?_)
          rw [if_pos (by rfl)]
          go_simp
          generalize IntKind.i64.wrap (A + 1) = X
          obtain ⟨iv, hIv, hy0, hy1, hy2⟩ := info_parts infoVer
          have b6 : Below wo.heap.size wo (wo.alloc (Obj.cells #[.int .i64 X, .int .i64 0] 69)).drew := ((Below.refl _ _).alloc (Nat.le_refl _) _).drew
          refine hK.out _ _ ⟨cell_stays b6 p1, cell_stays b6 cL, cell_stays b6 cA⟩ (fun hHeld2 => ?_)
          clear hK K hHeld
          (try simp only [Act.put, List.setIfInBounds_toArray, List.set_cons_zero, List.set_cons_succ])
          refine stepL (i := 29) rfl (by kernel_rfl) (fun K hK => ?_)
          refine step_append_old _ (by rfl) _ _ _ (by rfl) (w.heap.size + 3) 69 iv _ 2 16 Try.underlying47 hIv hy0 hy1 hy2 rfl (by omega) g1 (p + 1) cap1 (vcells (qAt qk i).1.l) (by rfl) (by have h := ((hOk.lists i hik).alloc (Obj.cells #[.int .i64 X, .int .i64 0] 69)).drew; rw [hlvH.out, HPE.out] at h; exact h) ⟨wo.heap.size, 0, none⟩ 1 1 [.int .i64 X, .int .i64 0] (by rfl) (by rfl) (World.news_of_block (heap_alloc_new wo _)) (by simp [Value.oneCell']) (by omega) (by unfold maxLen; omega) (by omega) (by show _ ≤ (wo.alloc _).heap.size; have := hRk.lt; simp; omega) (wo.heap.size + 1) (by show (wo.alloc _).heap.size = _; simp) ?_
          intro g2 cap2 w2 hown2 hgrow2 hat2 hlt2 hold2
          have hz2 : wo.heap.size + 1 ≤ w2.heap.size := by have := hgrow2.size; simpa using this
          have kb : ∀ g, g < wo.heap.size → g ≠ g1 → w2.heap[g]? = wo.heap[g]? := fun g hg hne => (hgrow2.block g (by show _ < (wo.alloc _).heap.size; simp; omega) (fun e => hne (by cases e; rfl))).trans (b6.block g hg)
          have hown1 : (qAt qk i).2.ownBlock = some g1 := by rw [hlvH.out]; rfl
          have hne0 : g0 ≠ g1 := fun e => (hOk.apart i hik g1 hown1).1 (by rw [e]; rfl)
          have hneb1 : bs ≠ g1 := Ne.symm (hnbk g1 (.inr ⟨i, hik, hown1⟩))
          have hg0l : g0 < wo.heap.size := (owns_lt hOk.row (g := g0) rfl).2
          have u0 := cell_same (kb bs hRk.lt hneb1) p1
          have uL := cell_same (kb g0 hg0l hne0) cL
          have uA : w2.cell? ⟨g1, p * 2, none⟩ = some (.int .i64 A) := hold2 _ _ (by rw [(vcells_get _ p (by rw [HPE.out]; omega)).1, HA.out])
          have hrow2 := owns_keep (w' := w2) hrowk fun g hg hgl => by cases hg; exact kb _ hgl hne0
          have uF : w2.frozen? ⟨g0, i * 3 + 2, none⟩ = false := hrow2.frozenAt _
          refine hK.out _ _ ⟨u0, uL, uA⟩ (fun hHeld3 => ?_)
          clear hK K hHeld2
          (try simp only [Act.put, List.setIfInBounds_toArray, List.set_cons_zero, List.set_cons_succ])
          refine takeL (i := 30) (v := ?_) rfl (by kernel_rfl) (by kernel_rfl) (by kernel_rfl) (fun _ _ _ h => h) rfl (by assumption) ?_ ?_
          rotate_left
          · (intro wS hSw; (try dsimp only at hSw); go_simp; try with_reducible rfl)
          (try simp only [Act.put, List.setIfInBounds_toArray, List.set_cons_zero, List.set_cons_succ])
          refine takeL (i := 31) (v := ?_) rfl (by kernel_rfl) (by kernel_rfl) (by kernel_rfl) (fun _ _ _ h => h) rfl (by assumption) ?_ ?_
          rotate_left
          · (intro wS hSw; (try dsimp only at hSw); go_simp; try with_reducible rfl)
          (try simp only [Act.put, List.setIfInBounds_toArray, List.set_cons_zero, List.set_cons_succ])
          clear hHeld3
          refine wpAnyH_done (by kernel_rfl) ?_ _
          refine lastL (n := 32) rfl rfl ?_
          go_simp
          obtain ⟨hst, _⟩ := hrow2.stored (i * 3 + 2) (.slice (some ⟨g2, 0, none⟩) (p + 1 + 1) cap2)
          have hg20 : g2 ≠ g0 := fun e => by
            rcases hat2 with h | h
            · exact hne0 (by rw [← e, h])
            · omega
          have hg2b : g2 ≠ bs := fun e => by
            rcases hat2 with h | h
            · exact hneb1 (by rw [← e, h])
            · have := hRk.lt; omega
          have kb3 : ∀ g, g < wo.heap.size → g ≠ g0 → g ≠ g1 → (w2.setCell ⟨g0, i * 3 + 2, none⟩ (.slice (some ⟨g2, 0, none⟩) (p + 1 + 1) cap2)).heap[g]? = wo.heap[g]? := fun g hg e0 e1 => (Below.heap_setCell _ _ _ _ e0).trans (kb g hg e1)
          have hl2' := ownsRow_setCell_other hown2 (a := ⟨g0, i * 3 + 2, none⟩) (fun e => hg20 (by simpa [Value.ownBlock] using e)) (.slice (some ⟨g2, 0, none⟩) (p + 1 + 1) cap2)
          have hOs := hOk.setList (c := i) (ch := ⟨(qAt qk i).1.t, (qAt qk i).1.r, (qAt qk i).1.l ++ [(X, 0)]⟩) (lv := .slice (some ⟨g2, 0, none⟩) (p + 1 + 1) cap2) (w' := w2.setCell ⟨g0, i * 3 + 2, none⟩ (.slice (some ⟨g2, 0, none⟩) (p + 1 + 1) cap2)) hik rfl rfl (by rw [show qk.length = q.length by omega]; exact hst) (by
            show World.ownsRow _ _ _ 2 _ ((qAt qk i).1.l ++ [(X, 0)]).length (vcells ((qAt qk i).1.l ++ [(X, 0)]))
            rw [List.length_append, List.length_singleton, vcells_snoc, HPE.out]
            exact hl2') (fun g hg => by
              cases hg
              rcases hat2 with h | h
              · left; rw [hown1, h]
              · right; show wo.heap.size ≤ g2; omega) (fun g hg e0 e1 => kb3 g hg (fun e => e0 (by rw [e]; rfl)) (fun e => e1 (by rw [hown1, e])))
          have hRs : BR w cb bs (.slice (some ⟨g0, 0, none⟩) q.length c0) (w2.setCell ⟨g0, i * 3 + 2, none⟩ (.slice (some ⟨g2, 0, none⟩) (p + 1 + 1) cap2)) := hRk.turn hgrow2.os hgrow2.tape hgrow2.output (by rw [size_setCell]; omega) (fun k hk => kb3 k (by have := hRk.lt; have := hRk.hbs; rcases hk with h | h <;> omega) (by rcases hk with h | h; omega; (rw [h]; exact Ne.symm hneb)) (by rcases hk with h | h; omega; (rw [h]; exact hneb1)))
          have hSs : Sm2 (qchs (qk.set i (⟨(qAt qk i).1.t, (qAt qk i).1.r, (qAt qk i).1.l ++ [(X, 0)]⟩, .slice (some ⟨g2, 0, none⟩) (p + 1 + 1) cap2))) := by
            have h1 := hSk.at (i := i) (by rw [qchs_length]; exact hik)
            rw [qchs_at qk hik] at h1
            rw [qchs_set]
            exact hSk.set i (by show List.length (_ ++ _) ≤ 200; rw [List.length_append, HPE.out]; simp; omega) h1.2
          have hnbs : ∀ g, ((Value.slice (some ⟨g0, 0, none⟩) q.length c0).ownBlock = some g ∨ ∃ j, j < (qk.set i (⟨(qAt qk i).1.t, (qAt qk i).1.r, (qAt qk i).1.l ++ [(X, 0)]⟩, .slice (some ⟨g2, 0, none⟩) (p + 1 + 1) cap2)).length ∧ (qAt (qk.set i (⟨(qAt qk i).1.t, (qAt qk i).1.r, (qAt qk i).1.l ++ [(X, 0)]⟩, .slice (some ⟨g2, 0, none⟩) (p + 1 + 1) cap2)) j).2.ownBlock = some g) → g ≠ bs := fun g hg => by
            rcases hg with hg | ⟨j, hj, hg⟩
            · exact hnbk g (.inl hg)
            · rw [List.length_set] at hj
              by_cases e : i = j
              · subst e
                rw [qAt_set_eq _ _ hik] at hg
                cases hg
                exact hg2b
              · rw [qAt_set_ne _ _ e] at hg
                exact hnbk g (.inr ⟨j, hj, hg⟩)
          have hm1 : lenM g0 i wo = 200 - (p + 1) := by unfold lenM; rw [cL]
          have hm2 : lenM g0 i (w2.setCell ⟨g0, i * 3 + 2, none⟩ (.slice (some ⟨g2, 0, none⟩) (p + 1 + 1) cap2)) = 200 - (p + 1 + 1) := by
            unfold lenM
            have : (w2.setCell ⟨g0, i * 3 + 2, none⟩ (.slice (some ⟨g2, 0, none⟩) (p + 1 + 1) cap2)).cell? ⟨g0, i * 3 + 2, none⟩ = some (.slice (some ⟨g2, 0, none⟩) (p + 1 + 1) cap2) := by simp [go_sem, uL]
            rw [this]
          have hls : (qAt (qk.set i (⟨(qAt qk i).1.t, (qAt qk i).1.r, (qAt qk i).1.l ++ [(X, 0)]⟩, .slice (some ⟨g2, 0, none⟩) (p + 1 + 1) cap2)) i).1.l.length = p + 2 := by
            rw [qAt_set_eq _ _ hik]
            show ((qAt qk i).1.l ++ [(X, 0)]).length = p + 2
            rw [List.length_append, HPE.out]; simp
          have hR : ∃ qk' : List Qc, BR w cb bs (.slice (some ⟨g0, 0, none⟩) q.length c0) (w2.setCell ⟨g0, i * 3 + 2, none⟩ (.slice (some ⟨g2, 0, none⟩) (p + 1 + 1) cap2)) ∧ OwnQ (w.heap.size + 3) (w2.setCell ⟨g0, i * 3 + 2, none⟩ (.slice (some ⟨g2, 0, none⟩) (p + 1 + 1) cap2)) (.slice (some ⟨g0, 0, none⟩) q.length c0) qk' ∧ (qk'.length ≤ q.length ∧ q.length ≤ qk'.length) ∧ (0 < (qAt qk' i).1.l.length ∧ (qAt qk' i).1.l.length ≤ 200) ∧ Sm2 (qchs qk') ∧ (∀ g, ((Value.slice (some ⟨g0, 0, none⟩) q.length c0).ownBlock = some g ∨ ∃ i, i < qk'.length ∧ (qAt qk' i).2.ownBlock = some g) → g ≠ bs) :=
            ⟨_, hRs, hOs, ⟨by rw [List.length_set]; exact hqa, by rw [List.length_set]; exact hqb⟩, ⟨by rw [hls]; omega, by rw [hls]; omega⟩, hSs, hnbs⟩
          have HR : Hid (lenM g0 i (w2.setCell ⟨g0, i * 3 + 2, none⟩ (.slice (some ⟨g2, 0, none⟩) (p + 1 + 1) cap2)) < lenM g0 i wo) := by show _ < _; rw [hm1, hm2]; omega
          have HQ := hR
          change Hid _ at HQ
          clear hR hm1 hm2 hls hnbs hSs hRs hOs hl2' kb3 kb hst hold2 hown2 hgrow2 hrow2
          go_wp2
          go_roundw
          case rel => exact HQ.out
          case measure => exact HR.out
        · have hE := hOk.done hRk hSk
          have l1' : ¬ ((qAt qk i).1.l.length : Int) < 200 := by omega
          clear hOk hRk hSk hnbk hrowk hlv
          go_wp2
          refine bodyPost_ret (v := .agg #[.slice (some ⟨g0, 0, none⟩) q.length c0]) (by simp [results, Try.results26, go_sem, p0]) rfl ?_
          exact hE

end Go.Proofs.Ytifdfelpbonckaa
