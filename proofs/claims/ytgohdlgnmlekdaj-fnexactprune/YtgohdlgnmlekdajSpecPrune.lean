/- spec.Prune. -/
import Derived.Test.YtgohdlgnmlekdajPrune
import Derived.Test.YtgohdlgnmlekdajSpecOk
namespace Go.Proofs.Ytgohdlgnmlekdaj
open Go.ChangeShapes Go.WideShapes Go.ChangeAt Go.RowKit Go.Maps Go.Sort
set_option linter.unusedVariables false
set_option maxRecDepth 100000
attribute [local go_sem ↓] Go.wp_at_zero Go.wp_at_succ

/-- Chains that a call has laid one behind another. -/
def COwn (base : Nat) (w : World) (ov : Value) (out : List Ch) (Bs : Nat → Nat) : Prop :=
  ∃ xs, w.ownsRow base 95 3 ov out.length xs ∧ (∀ j, j < out.length → xs[j * 3]? = some (.int .i64 (cAt out j).t) ∧ xs[j * 3 + 1]? = some (.int .i64 (cAt out j).r) ∧ ∃ c, (cAt out j).l.length ≤ c ∧ xs[j * 3 + 2]? = some (.slice (some ⟨Bs j, 0, none⟩) (cAt out j).l.length c)) ∧
    (∀ j, j < out.length → OwnV w (Bs j) (cAt out j).l ∧ base ≤ Bs j ∧ some (Bs j) ≠ ov.ownBlock) ∧ ∀ i j, i < j → j < out.length → Bs i ≠ Bs j

theorem COwn.nil (base : Nat) (w : World) : COwn base w (.slice none 0 0) [] (fun _ => 0) :=
  ⟨[], World.ownsRow_nil _ _ _ _, fun j hj => absurd hj (Nat.not_lt_zero _), fun j hj => absurd hj (Nat.not_lt_zero _), fun i j _ hj => absurd hj (Nat.not_lt_zero _)⟩

theorem COwn.stays {base : Nat} {w w' : World} {ov : Value} {out : List Ch} {Bs : Nat → Nat} (h : COwn base w ov out Bs) (hb : Below w.heap.size w w') : COwn base w' ov out Bs := by
  obtain ⟨xs, h1, h2, h3, h4⟩ := h
  refine ⟨xs, ownsRow_low h1 hb, h2, fun j hj => ?_, h4⟩
  obtain ⟨g1, g2, g3⟩ := h3 j hj
  exact ⟨g1.of_block (hb.block _ g1.lt), g2, g3⟩

theorem COwn.ownS {base lo : Nat} {w : World} {ov : Value} {out : List Ch} {Bs : Nat → Nat} (hlo : lo ≤ base) (h : COwn base w ov out Bs) : OwnS lo w ov out := by
  obtain ⟨xs, ⟨h1, ⟨h2, h3⟩ | ⟨b, cap, cur, rfl, hb, hh, hcap, hm, hc, ht⟩⟩, hx, hl, hd⟩ := h
  · exact .inl ⟨h2, List.eq_nil_of_length_eq_zero h3⟩
  · have hbl : b < w.heap.size := (Array.getElem?_eq_some_iff.1 hh).1
    refine .inr ⟨b, Bs, cap, rfl, by omega, hbl, fun j => xs.getD j (.int .i64 0), ⟨cur, hh, by rw [hc]; omega, fun j hj => ?_⟩, fun i hi => ?_, hd⟩
    · have e : (cur.toList.take (out.length * 3))[j]? = xs[j]? := by rw [ht]
      rw [List.getElem?_take_of_lt hj, Array.getElem?_toList] at e
      rw [e]
      have hj' : j < xs.length := by rw [h1]; exact hj
      simp [List.getD, List.getElem?_eq_getElem hj']
    · obtain ⟨g1, g2, c, gc, g3⟩ := hx i hi
      obtain ⟨k1, k2, k3⟩ := hl i hi
      exact ⟨by simp [List.getD, g1], by simp [List.getD, g2], ⟨c, gc, by simp [List.getD, g3]⟩, k1, by omega, k1.lt, fun e => k3 (by rw [e]; rfl)⟩

/-- What is kept of the first j versions. -/
def prT (l : List Vr) (h : Int) (j : Nat) : List Vr := (l.take j).drop (un l h - 1)
theorem prT_all (l : List Vr) (h : Int) : prT l h l.length = prL l h := by simp [prT, prL]
theorem prT_length (l : List Vr) (h : Int) {j : Nat} (hj : j ≤ l.length) : (prT l h j).length = j - (un l h - 1) := by simp [prT]; omega
theorem prT_yes (l : List Vr) (h : Int) {j : Nat} (hj : j < l.length) (hd : un l h - 1 ≤ j) : prT l h (j + 1) = prT l h j ++ [vAt l j] := by
  unfold prT
  have e : l.take (j + 1) = l.take j ++ [vAt l j] := by
    rw [List.take_add_one]
    simp [vAt, List.getD, List.getElem?_eq_getElem hj]
  rw [e, List.drop_append_of_le_length (by simp; omega)]
theorem prT_no (l : List Vr) (h : Int) {j : Nat} (hj : j < l.length) (hd : j < un l h - 1) : prT l h (j + 1) = prT l h j := by
  unfold prT
  rw [List.drop_eq_nil_of_le (by simp; omega), List.drop_eq_nil_of_le (by simp; omega)]

/-- The j-th version is kept just where it is the last one or the next one is later. -/
theorem keep_iff {l : List Vr} (hv : versOk l) (h : Int) {j : Nat} (hj : j < l.length) : (un l h - 1 ≤ j) ↔ (j + 1 = l.length ∨ h < (vAt l (j + 1)).1) := by
  obtain ⟨h1, h2, h3⟩ := un_is l h
  have later : ∀ i, un l h ≤ i → i < l.length → h < (vAt l i).1 := fun i a b => by
    have h4 := h3 (by omega)
    by_cases e : i = un l h
    · rw [e]; exact h4
    · have := vers_up hv (un l h) (i - un l h - 1) (by omega)
      rw [show un l h + (i - un l h - 1) + 1 = i by omega] at this
      omega
  constructor
  · intro hd
    by_cases e : j + 1 = l.length
    · exact .inl e
    · exact .inr (later _ (by omega) (by omega))
  · rintro (e | e)
    · omega
    · by_cases hd : j + 1 < un l h
      · have := h2 (j + 1) hd; omega
      · omega

theorem cAt_snoc_lt (out : List Ch) (c : Ch) {j : Nat} (hj : j < out.length) : cAt (out ++ [c]) j = cAt out j := by
  simp [cAt, List.getD, List.getElem?_append_left hj]
theorem cAt_snoc_eq (out : List Ch) (c : Ch) : cAt (out ++ [c]) out.length = c := by simp [cAt]

theorem ownV_of_owns {base : Nat} {w : World} {g cap : Nat} {l : List Vr} (h : w.ownsRow base 72 2 (.slice (some ⟨g, 0, none⟩) l.length cap) l.length (vcells l)) : OwnV w g l ∧ l.length ≤ cap := by
  obtain ⟨h1, ⟨h2, h3⟩ | ⟨b, cap', cur, e, hb, hh, hcap, hm, hc, ht⟩⟩ := h
  · cases h2
  · cases e
    refine ⟨⟨fun j => (vcells l).getD j (.int .i64 0), ⟨cur, hh, by rw [hc]; omega, fun j hj => ?_⟩, fun i hi => ?_⟩, hcap⟩
    · have e : (cur.toList.take (l.length * 2))[j]? = (vcells l)[j]? := by rw [ht]
      rw [List.getElem?_take_of_lt hj, Array.getElem?_toList] at e
      rw [e]
      have hj' : j < (vcells l).length := by rw [vcells_length]; exact hj
      simp [List.getD, List.getElem?_eq_getElem hj']
    · obtain ⟨g1, g2⟩ := vcells_get l i hi
      simp [List.getD, g1, g2]

theorem COwn.snoc {base : Nat} {wr w6 : World} {ov : Value} {out : List Ch} {Bs : Nat → Nat} {xs : List Value} (c : Ch) (g7 cap7 gg cap5 B2 : Nat) (o : Obj) (u : Value)
    (hxo : wr.ownsRow base 95 3 ov out.length xs) (hx2 : ∀ j, j < out.length → xs[j * 3]? = some (.int .i64 (cAt out j).t) ∧ xs[j * 3 + 1]? = some (.int .i64 (cAt out j).r) ∧ ∃ c, (cAt out j).l.length ≤ c ∧ xs[j * 3 + 2]? = some (.slice (some ⟨Bs j, 0, none⟩) (cAt out j).l.length c))
    (hx3 : ∀ j, j < out.length → OwnV wr (Bs j) (cAt out j).l ∧ base ≤ Bs j ∧ some (Bs j) ≠ ov.ownBlock) (hx4 : ∀ i j, i < j → j < out.length → Bs i ≠ Bs j)
    (hOV : OwnV wr g7 c.l) (hg7 : base ≤ g7) (hg7o : ∀ j, j < out.length → Bs j ≠ g7) (hg7v : some g7 ≠ ov.ownBlock) (hc : c.l.length ≤ cap7)
    (hown6 : w6.ownsRow base 95 3 (.slice (some ⟨gg, 0, none⟩) (out.length + 1) cap5) (out.length + 1) (xs ++ [.int .i64 c.t, .int .i64 c.r, .slice (some ⟨g7, 0, none⟩) c.l.length cap7]))
    (hgrow : (wr.alloc o).grownBy w6 ov.ownBlock) (hat6 : ov.ownBlock = some gg ∨ gg = wr.heap.size + 1) (hB2 : B2 < base) :
    COwn base (w6.setCell ⟨B2, 0, none⟩ u) (.slice (some ⟨gg, 0, none⟩) (out.length + 1) cap5) (out ++ [c]) (upd Bs out.length g7) := by
  have e1 : ∀ j, base ≤ j → (w6.setCell ⟨B2, 0, none⟩ u).heap[j]? = w6.heap[j]? := fun j hj => Below.heap_setCell _ _ _ _ (show j ≠ B2 by omega)
  have hA : wr.grownBy w6 ov.ownBlock := gb_trans (gb_below _ (below_alloc wr o)) hgrow
  have hxl : xs.length = out.length * 3 := hxo.1
  have ngg : ∀ B, B < wr.heap.size → some B ≠ ov.ownBlock → B ≠ gg := fun B hB hne e => by
    rcases hat6 with h | h
    · exact hne (by rw [h, e])
    · omega
  refine ⟨xs ++ [.int .i64 c.t, .int .i64 c.r, .slice (some ⟨g7, 0, none⟩) c.l.length cap7], ⟨?_, ?_⟩, fun j hj => ?_, fun j hj => ?_, fun i j hij hj => ?_⟩
  · simp [hxl]; omega
  · rw [List.length_append, List.length_singleton]
    rcases hown6.2 with ⟨h2, _⟩ | ⟨g', cap', cur, hv, hg, hh, r⟩
    · cases h2
    · exact .inr ⟨g', cap', cur, hv, hg, by rw [e1 g' hg]; exact hh, r⟩
  · by_cases hjl : j < out.length
    · rw [cAt_snoc_lt out c hjl, upd_other Bs (by omega)]
      obtain ⟨a1, a2, cc, a3, a4⟩ := hx2 j hjl
      rw [List.getElem?_append_left (by omega), List.getElem?_append_left (by omega), List.getElem?_append_left (by omega)]
      exact ⟨a1, a2, cc, a3, a4⟩
    · obtain rfl : j = out.length := by simp at hj; omega
      rw [cAt_snoc_eq, upd_same, List.getElem?_append_right (by omega), List.getElem?_append_right (by omega), List.getElem?_append_right (by omega), hxl]
      refine ⟨?_, ?_, cap7, hc, ?_⟩
      · rw [show out.length * 3 - out.length * 3 = 0 by omega]; rfl
      · rw [show out.length * 3 + 1 - out.length * 3 = 1 by omega]; rfl
      · rw [show out.length * 3 + 2 - out.length * 3 = 2 by omega]; rfl
  · by_cases hjl : j < out.length
    · rw [cAt_snoc_lt out c hjl, upd_other Bs (by omega)]
      obtain ⟨a1, a2, a3⟩ := hx3 j hjl
      refine ⟨a1.of_block (by rw [e1 _ a2, hA.block _ a1.lt a3]), a2, fun e => ngg _ a1.lt a3 (by simpa [Value.ownBlock] using e)⟩
    · obtain rfl : j = out.length := by simp at hj; omega
      rw [cAt_snoc_eq, upd_same]
      exact ⟨hOV.of_block (by rw [e1 _ hg7, hA.block _ hOV.lt hg7v]), hg7, fun e => ngg _ hOV.lt hg7v (by simpa [Value.ownBlock] using e)⟩
  · rw [upd_other Bs (show i ≠ out.length by simp at hj; omega)]
    by_cases hjl : j < out.length
    · rw [upd_other Bs (by omega)]; exact hx4 i j hij hjl
    · obtain rfl : j = out.length := by simp at hj; omega
      rw [upd_same]; exact hg7o i hij

theorem prune_take (l : List Ch) (h : Int) {k : Nat} (hk : k < l.length) : (prune l h).take (k + 1) = (prune l h).take k ++ [⟨(cAt l k).t, (cAt l k).r, prL (cAt l k).l h⟩] := by
  have hp : k < (prune l h).length := by rw [prune_length]; exact hk
  rw [List.take_add_one, List.getElem?_eq_getElem hp]
  have := prune_at l h hk
  simp [cAt, List.getD, List.getElem?_eq_getElem hp] at this
  simp [this, cAt]

theorem vcells_snoc (l : List Vr) (x : Vr) : vcells (l ++ [x]) = vcells l ++ [.int .i64 x.1, .int .i64 x.2] := by simp [vcells]

end Go.Proofs.Ytgohdlgnmlekdaj
