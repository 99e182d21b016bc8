/- A drawn store, turned in one place: what it holds. -/
import Derived.Test.YtifdfelpbonckaaLDraw2
namespace Go.Proofs.Ytifdfelpbonckaa
open Go.ChangeShapes Go.WideShapes Go.ChangeAt Go.RowKit Go.Maps Go.Sort
set_option linter.unusedVariables false
set_option maxRecDepth 100000
attribute [local go_sem ↓] Go.wp_at_zero Go.wp_at_succ

theorem vers_of_row {base : Nat} {w : World} {v : Value} {l : List Vr} (h : w.ownsRow base 69 2 v l.length (vcells l)) (hm : l.length ≤ 1048576) : ∃ a c, v = .slice a l.length c ∧ VersAt base w.heap.size w v l := by
  have h0 := h
  obtain ⟨h1, ⟨h2, h3⟩ | ⟨b, cap, cur, rfl, hb, hh, hcap, hm', hc, ht⟩⟩ := h
  · exact ⟨none, 0, by rw [h2, h3], none, 0, by rw [h2, h3], by unfold maxLen; omega, fun hp => absurd hp (by omega)⟩
  · refine ⟨_, cap, rfl, _, cap, rfl, by unfold maxLen; omega, fun _ => ⟨b, 0, rfl, hb, (Array.getElem?_eq_some_iff.1 hh).1, fun i hi => ?_⟩⟩
    obtain ⟨g1, g2⟩ := vcells_get l i hi
    exact ⟨by rw [Nat.zero_add, h0.cellAt _ (by omega), g1], by rw [Nat.zero_add, h0.cellAt _ (by omega), g2]⟩

theorem chains_row {base : Nat} {w : World} {ov : Value} {q : List Qc} (hrow : w.ownsRow base 49 3 ov q.length (qcells q)) (hn : q.length ≤ 1048576) (hv : ∀ i, i < q.length → ∃ a c, (qAt q i).2 = .slice a (qAt q i).1.l.length c ∧ VersAt base w.heap.size w (qAt q i).2 (qAt q i).1.l) : ChainsAt base w.heap.size w ov (qchs q) := by
  obtain ⟨h1, h2⟩ := id hrow
  have hlen := qchs_length q
  rcases h2 with ⟨rfl, hz⟩ | ⟨g, cap, cur, rfl, hg, hblk, hcap, hcm, hcs, htk⟩
  · refine ⟨none, 0, by rw [hlen, hz], by rw [hlen]; unfold maxLen; omega, fun hp => by rw [hlen] at hp; omega⟩
  · refine ⟨_, cap, by rw [hlen], by rw [hlen]; unfold maxLen; omega, fun hp => ⟨g, 0, rfl, hg, (Array.getElem?_eq_some_iff.1 hblk).1, fun i hi => ?_⟩⟩
    rw [hlen] at hi
    obtain ⟨e1, e2, e3⟩ := qcells_get q i hi
    obtain ⟨a, c, e4, hV⟩ := hv i hi
    rw [qchs_at q hi]
    refine ⟨by rw [Nat.zero_add, hrow.cellAt _ (by omega), e1], by rw [Nat.zero_add, hrow.cellAt _ (by omega), e2], a, c, by rw [Nat.zero_add, hrow.cellAt _ (by omega), e3, e4], ?_⟩
    rw [← e4]; exact hV

theorem OwnQ.chains' {base : Nat} {w : World} {ov : Value} {q : List Qc} (h : OwnQ base w ov q) (hn : q.length ≤ 1048576) (hs : ∀ i, i < q.length → (qAt q i).1.l.length ≤ 1048576) : ChainsAt base w.heap.size w ov (qchs q) :=
  chains_row h.row hn fun i hi => vers_of_row (h.lists i hi) (hs i hi)

/-- Each chain's list has room for what it holds. -/
def CapsAt (w : World) (v : Value) (l : List Ch) : Prop := ∀ i, i < l.length → ∃ b off n c a m c', v = .slice (some ⟨b, off, none⟩) n c ∧ w.cell? ⟨b, off + i * 3 + 1 + 1, none⟩ = some (.slice a m c') ∧ m ≤ c'
theorem CapsAt.stays {w w' : World} {v : Value} {l : List Ch} (h : CapsAt w v l) (hb : Below w.heap.size w w') : CapsAt w' v l := fun i hi => by
  obtain ⟨b, off, n, c, a, m, c', e, h1, h2⟩ := h i hi
  exact ⟨b, off, n, c, a, m, c', e, cell_stays hb h1, h2⟩
theorem CapsAt.keep {lo hi : Nat} {w w' : World} {v : Value} {l : List Ch} (h : CapsAt w v l) (hC : ChainsAt lo hi w v l) (hs : ∀ b, lo ≤ b → b < hi → b < w.heap.size → w'.heap[b]? = w.heap[b]?) : CapsAt w' v l := fun i hi' => by
  obtain ⟨b, off, n, c, a, m, c', e, h1, h2⟩ := h i hi'
  obtain ⟨a', cap, e', _, h3⟩ := hC
  obtain ⟨b', off', ha, hl, hh, _⟩ := h3 (by omega)
  subst e ha
  cases e'
  exact ⟨b, off, _, c, a, m, c', rfl, cell_same (hs b hl hh (cell_lt h1)) h1, h2⟩
theorem owns_caps {w : World} {base : Nat} {e : TypeId} {size : Nat} {v : Value} {n : Nat} {xs : List Value} (h : w.ownsRow base e size v n xs) : ∃ a m c, v = .slice a m c ∧ m ≤ c := by
  rcases h.2 with ⟨rfl, rfl⟩ | ⟨g, cap, cur, rfl, _, _, hcap, _⟩
  · exact ⟨_, _, _, rfl, Nat.le_refl _⟩
  · exact ⟨_, _, _, rfl, hcap⟩
theorem caps_row {base : Nat} {w : World} {ov : Value} {q : List Qc} (hrow : w.ownsRow base 49 3 ov q.length (qcells q)) (hv : ∀ i, i < q.length → ∃ a m c, (qAt q i).2 = .slice a m c ∧ m ≤ c) : CapsAt w ov (qchs q) := fun i hi => by
  rw [qchs_length] at hi
  obtain ⟨h1, h2⟩ := id hrow
  rcases h2 with ⟨rfl, hz⟩ | ⟨g, cap, cur, rfl, hg, hblk, hcap, hcm, hcs, htk⟩
  · omega
  · obtain ⟨a, m, c, e, hm⟩ := hv i hi
    obtain ⟨e1, e2, e3⟩ := qcells_get q i hi
    exact ⟨g, 0, _, _, a, m, c, rfl, by rw [Nat.zero_add, show i * 3 + 1 + 1 = i * 3 + 2 from rfl, hrow.cellAt _ (by omega), e3, e], hm⟩

/-- The table's cell alone. -/
theorem qcells_setT (q : List Qc) (i : Nat) (k : Int) (hi : i < q.length) : (qcells q).set (i * 3) (.int .i64 k) = qcells (q.set i (⟨k, (qAt q i).1.r, (qAt q i).1.l⟩, (qAt q i).2)) := by
  rw [← qcells_set q i _ hi]
  obtain ⟨h1, h2, h3⟩ := qcells_get q i hi
  have hl := qcells_length q
  refine List.ext_getElem? fun j => ?_
  by_cases e2 : i * 3 + 2 = j
  · subst e2
    rw [List.getElem?_set_self (by simp; omega), List.getElem?_set_ne (by omega), h3]
  · rw [List.getElem?_set_ne e2]
    by_cases e1 : i * 3 + 1 = j
    · subst e1
      rw [List.getElem?_set_self (by simp; omega), List.getElem?_set_ne (by omega), h2]
    · rw [List.getElem?_set_ne e1]

theorem OwnQ.setT {base : Nat} {w : World} {g cap : Nat} {q : List Qc} (h : OwnQ base w (.slice (some ⟨g, 0, none⟩) q.length cap) q) {i : Nat} (hi : i < q.length) (k : Int) : OwnQ base (w.setCell ⟨g, i * 3, none⟩ (.int .i64 k)) (.slice (some ⟨g, 0, none⟩) q.length cap) (q.set i (⟨k, (qAt q i).1.r, (qAt q i).1.l⟩, (qAt q i).2)) := by
  have hlen : (q.set i (⟨k, (qAt q i).1.r, (qAt q i).1.l⟩, (qAt q i).2)).length = q.length := by simp
  have hv2 : ∀ j, (qAt (q.set i (⟨k, (qAt q i).1.r, (qAt q i).1.l⟩, (qAt q i).2)) j).2 = (qAt q j).2 ∧ (qAt (q.set i (⟨k, (qAt q i).1.r, (qAt q i).1.l⟩, (qAt q i).2)) j).1.l = (qAt q j).1.l := fun j => by
    by_cases e : i = j
    · subst e; rw [qAt_set_eq _ _ hi]; exact ⟨rfl, rfl⟩
    · rw [qAt_set_ne _ _ e]; exact ⟨rfl, rfl⟩
  refine ⟨?_, fun j hj => ?_, fun j hj g' hg' => ?_⟩
  · rw [hlen, ← qcells_setT q i k hi]
    exact (h.row.stored (i * 3) (.int .i64 k)).1
  · rw [hlen] at hj
    rw [(hv2 j).1, (hv2 j).2]
    exact owns_keep (h.lists j hj) fun g' hg' _ => Below.heap_setCell _ _ _ _ (fun e => (h.apart j hj g' hg').1 (by rw [e]; rfl))
  · rw [hlen] at hj
    rw [(hv2 j).1] at hg'
    refine ⟨(h.apart j hj g' hg').1, fun j' hj' hne => ?_⟩
    rw [hlen] at hj'
    rw [(hv2 j').1]
    exact (h.apart j hj g' hg').2 j' hj' hne

theorem vcells_set0 (l : List Vr) (k : Int) (hl : 0 < l.length) : (vcells l).set 0 (.int .i64 k) = vcells (l.set 0 (k, (vAt l 0).2)) := by
  cases l with
  | nil => simp at hl
  | cons x l => simp [vcells, vAt]

theorem OwnQ.setA {base : Nat} {w : World} {ov : Value} {q : List Qc} (h : OwnQ base w ov q) {i : Nat} (hi : i < q.length) {g cap : Nat} (hl : 0 < (qAt q i).1.l.length) (hv : (qAt q i).2 = .slice (some ⟨g, 0, none⟩) (qAt q i).1.l.length cap) (k : Int) : OwnQ base (w.setCell ⟨g, 0, none⟩ (.int .i64 k)) ov (q.set i (⟨(qAt q i).1.t, (qAt q i).1.r, (qAt q i).1.l.set 0 (k, (vAt (qAt q i).1.l 0).2)⟩, (qAt q i).2)) := by
  have hlen : (q.set i (⟨(qAt q i).1.t, (qAt q i).1.r, (qAt q i).1.l.set 0 (k, (vAt (qAt q i).1.l 0).2)⟩, (qAt q i).2)).length = q.length := by simp
  have hv2 : ∀ j, (qAt (q.set i (⟨(qAt q i).1.t, (qAt q i).1.r, (qAt q i).1.l.set 0 (k, (vAt (qAt q i).1.l 0).2)⟩, (qAt q i).2)) j).2 = (qAt q j).2 := fun j => by
    by_cases e : i = j
    · subst e; rw [qAt_set_eq _ _ hi]
    · rw [qAt_set_ne _ _ e]
  have hgi : (qAt q i).2.ownBlock = some g := by rw [hv]; rfl
  refine ⟨?_, fun j hj => ?_, fun j hj g' hg' => ?_⟩
  · rw [hlen]
    have e : qcells (q.set i (⟨(qAt q i).1.t, (qAt q i).1.r, (qAt q i).1.l.set 0 (k, (vAt (qAt q i).1.l 0).2)⟩, (qAt q i).2)) = qcells q := by
      rw [← qcells_setL q i ⟨(qAt q i).1.t, (qAt q i).1.r, (qAt q i).1.l.set 0 (k, (vAt (qAt q i).1.l 0).2)⟩ (qAt q i).2 hi rfl rfl]
      refine List.ext_getElem? fun j => ?_
      by_cases e : i * 3 + 2 = j
      · subst e
        rw [List.getElem?_set_self (by rw [qcells_length]; omega), (qcells_get q i hi).2.2]
      · rw [List.getElem?_set_ne e]
    rw [e]
    exact owns_keep h.row fun g' hg' _ => Below.heap_setCell _ _ _ _ (fun e => (h.apart i hi g hgi).1 (by have e2 : g' = g := e; rw [← e2]; exact hg'))
  · rw [hlen] at hj
    by_cases e : i = j
    · subst e
      rw [qAt_set_eq _ _ hi]
      show World.ownsRow _ base _ 2 _ ((qAt q i).1.l.set 0 _).length (vcells ((qAt q i).1.l.set 0 _))
      rw [List.length_set, ← vcells_set0 _ _ hl]
      have := h.lists i hi
      rw [hv] at this ⊢
      exact (this.stored 0 (.int .i64 k)).1
    · rw [qAt_set_ne _ _ e]
      exact owns_keep (h.lists j hj) fun g' hg' _ => Below.heap_setCell _ _ _ _ (fun e' => (h.apart i hi g hgi).2 j hj (Ne.symm e) (by have e2 : g' = g := e'; rw [← e2]; exact hg'))
  · rw [hlen] at hj
    rw [hv2 j] at hg'
    refine ⟨(h.apart j hj g' hg').1, fun j' hj' hne => ?_⟩
    rw [hlen] at hj'
    rw [hv2 j']
    exact (h.apart j hj g' hg').2 j' hj' hne

theorem OwnQ.setNil {base : Nat} {w : World} {g cap : Nat} {q : List Qc} (h : OwnQ base w (.slice (some ⟨g, 0, none⟩) q.length cap) q) {i : Nat} (hi : i < q.length) : OwnQ base (w.setCell ⟨g, i * 3 + 2, none⟩ (.slice none 0 0)) (.slice (some ⟨g, 0, none⟩) q.length cap) (q.set i (⟨(qAt q i).1.t, (qAt q i).1.r, []⟩, .slice none 0 0)) :=
  h.setList hi rfl rfl (h.row.stored (i * 3 + 2) (.slice none 0 0)).1 (World.ownsRow_nil _ _ _ _) (fun g' hg' => by cases hg') (fun g' _ hne _ => Below.heap_setCell _ _ _ _ (fun e => hne (by rw [e]; rfl)))

theorem l1Once_any (cb : Nat) (n : Int) (w : World) (hc : Cur w cb) :
    Calls Try.prog 28 #[.pointer (some ⟨cb, 0, none⟩), .int .i64 n] w fun e w' => (∃ b : Bool, e = .returned (.bool b)) ∧ Cur w' cb ∧ w.grownBy w' (some cb) := by
  go_enter Try.func28, Try.ntmps28
  go_wp2_with fail
  refine (l1Below_any cb n _ hc).mono ?_
  rintro e w2 ⟨⟨x2, rfl, hx20, hx21⟩, hc2, hg2⟩
  go_wp2
  go_ret
  exact ⟨⟨_, rfl⟩, hc2, hg2⟩
end Go.Proofs.Ytifdfelpbonckaa
