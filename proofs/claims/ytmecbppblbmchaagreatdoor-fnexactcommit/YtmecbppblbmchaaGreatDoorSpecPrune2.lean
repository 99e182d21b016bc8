import Derived.Test.YtmecbppblbmchaaGreatDoorZ3
import Derived.Test.YtmecbppblbmchaaGreatDoorM6
import Derived.Test.YtmecbppblbmchaaGreatDoorPrune
import Derived.Test.YtmecbppblbmchaaGreatDoorRead
/- The program's Commit. -/
namespace Go.Proofs.YtmecbppblbmchaaGreatDoor
open Go.ChangeShapes Go.WideShapes Go.ChangeAt Go.RowKit Go.Sort
set_option linter.unusedVariables false
set_option maxRecDepth 100000
attribute [local go_sem ↓] Go.wp_at_zero Go.wp_at_succ


set_option maxHeartbeats 4000000 in
theorem implCommit_any (vs vt ve : Value) (m : Md) (tx : Int) (w : World) {lo hi : Nat} (h : MAt lo hi w vs vt ve m) (hn : SmallM m) (hwf : WfM m) (hL : Laid w) :
    Calls Tryz.prog 21 #[.agg #[vs, .int .i64 m.c, .int .i64 m.n, vt, ve], .int .i64 tx] w fun e w' => ∃ v x code, e = .returned (.tuple #[v, .int .i64 code]) ∧ AnsM w.heap.size w' v x ∧ RC m x tx code ∧ Below w.heap.size w w' := by
  obtain ⟨a1, cap1, hv1⟩ : ∃ a cap, vs = .slice a m.s.length cap := by obtain ⟨a, cap, h1, _⟩ := h.s; exact ⟨a, cap, h1⟩
  obtain ⟨a2, cap2, hv2⟩ : ∃ a cap, vt = .slice a m.x.length cap := by obtain ⟨a, cap, h1, _⟩ := h.x; exact ⟨a, cap, h1⟩
  obtain ⟨a3, cap3, hv3⟩ : ∃ a cap, ve = .slice a m.h.length cap := by obtain ⟨a, cap, h1, _⟩ := h.h; exact ⟨a, cap, h1⟩
  subst hv1 hv2 hv3
  have b0 : Below w.heap.size w ((w.alloc (Obj.cells #[Value.slice a1 m.s.length cap1, .int .i64 m.c, .int .i64 m.n, Value.slice a2 m.x.length cap2, Value.slice a3 m.h.length cap3] 36)).alloc (Obj.cells #[Value.slice none 0 0, .int .i64 0, .int .i64 0, Value.slice none 0 0, Value.slice none 0 0] 36)) := ((Below.refl _ _).alloc (Nat.le_refl _) _).alloc (by simp) _
  have r0 := zeroBox w (Obj.cells #[Value.slice a1 m.s.length cap1, .int .i64 m.c, .int .i64 m.n, Value.slice a2 m.x.length cap2, Value.slice a3 m.h.length cap3] 36)
  have hz0 : w.heap.size + 1 < ((w.alloc (Obj.cells #[Value.slice a1 m.s.length cap1, .int .i64 m.c, .int .i64 m.n, Value.slice a2 m.x.length cap2, Value.slice a3 m.h.length cap3] 36)).alloc (Obj.cells #[Value.slice none 0 0, .int .i64 0, .int .i64 0, Value.slice none 0 0, Value.slice none 0 0] 36)).heap.size := by simp
  go_enter Tryz.func21, Tryz.ntmps21
  go_wp2_with fail
  generalize (w.alloc (Obj.cells #[Value.slice a1 m.s.length cap1, .int .i64 m.c, .int .i64 m.n, Value.slice a2 m.x.length cap2, Value.slice a3 m.h.length cap3] 36)).alloc (Obj.cells #[Value.slice none 0 0, .int .i64 0, .int .i64 0, Value.slice none 0 0, Value.slice none 0 0] 36) = W0 at *
  refine Calls.mono (copyMgr_own _ _ _ m _ (h.stays b0) hn) ?_
  rintro e w1 ⟨B, s0, s1, vs1, vt1, ve1, wv1, rfl, P1, hb1⟩
  have b1 := b0.trans (hb1.mono b0.size)
  have r1 := r0.of_block (hb1.block _ hz0)
  have hz1 := hb1.size
  clear r0 hb1
  go_wp2_with fail
  refine Calls.mono (commit_in _ B s0 s1 vs1 vt1 ve1 m wv1 tx _ P1 hn.room hwf) ?_
  rintro e w2 ⟨hb2, x, code, hR, hcase⟩
  have b2 := b1.trans (hb2.mono (by omega))
  have r2 := r1.of_block (hb2.block _ hz0)
  have hz2 := hb2.size
  have L2 := hL.stays b2
  have HB : Hid (RC m x tx code) := hR
  clear r1 b1 hR
  rcases hcase with ⟨rfl, rfl, t0, t1, vs2, vt2, ve2, wv2, P2⟩ | ⟨rfl, rfl⟩
  · go_wp2_with fail
    refine Calls.mono (told_ptr _ B t0 t1 vs2 vt2 ve2 x wv2 _ P2) ?_
    rintro e w3 ⟨rfl, hb3⟩
    have r3 := r2.of_block (hb3.block _ (by omega))
    have O3 := P2.own.stays hb3
    have b3 := b2.trans (hb3.mono b2.size)
    obtain ⟨a2, c2, rfl⟩ := owns_sliceM O3.x
    obtain ⟨a3, c3, rfl⟩ := owns_sliceM O3.h
    obtain ⟨a1, n1, c1, rfl⟩ : ∃ a n c, vs2 = .slice a n c := by
      rcases O3.s with ⟨rfl, _⟩ | ⟨b, Bs, cap, rfl, _⟩
      · exact ⟨_, _, _, rfl⟩
      · exact ⟨_, _, _, rfl⟩
    clear P1 P2 hb3 r2 L2 hL
    have c0 := r3.cell (show 0 < 5 by omega)
    have c1' := r3.cell (show 1 < 5 by omega)
    have c2' := r3.cell (show 2 < 5 by omega)
    have c3' := r3.cell (show 3 < 5 by omega)
    have c4' := r3.cell (show 4 < 5 by omega)
    have f0 := r3.frozen 0
    have f1 := r3.frozen 1
    have f2 := r3.frozen 2
    have f3 := r3.frozen 3
    have f4 := r3.frozen 4
    have hz3 := r3.lt
    go_wp2
    obtain ⟨kz, kk⟩ := boxed_keep0 w3 (w.heap.size + 1) (.slice a1 n1 c1) (.int .i64 x.c) (.int .i64 x.n) (.slice a2 x.x.length c2) (.slice a3 x.h.length c3)
    have OF := (O3.keep (fun k h1 h2 => kk k (by omega) h2) kz).mono (base' := w.heap.size) (by omega)
    refine bodyPost_ret (v := .tuple #[.agg #[.slice a1 n1 c1, .int .i64 x.c, .int .i64 x.n, .slice a2 x.x.length c2, .slice a3 x.h.length c3], .int .i64 0]) (by simp [results, Tryz.results21, go_sem, c0, c1', c2', c3', c4']) rfl ⟨_, x, _, rfl, ⟨t0, t1, _, _, _, _, rfl, OF⟩, HB.out, ?_⟩
    repeat (first | exact b3 | refine Below.alloc ?_ (by simp only [size_setCell]; omega) _ | refine Below.setCell ?_ (by simp) _)
  · simp only [refE]
    go_wp2_with fail
    refine Calls.mono (told_err _ code _ L2) ?_
    rintro e w3 ⟨rfl, hb3⟩
    have r3 := r2.of_block (hb3.block _ (by omega))
    have b3 := b2.trans (hb3.mono b2.size)
    clear hb3 r2 L2 hL P1
    have c0 := r3.cell (show 0 < 5 by omega)
    have c1' := r3.cell (show 1 < 5 by omega)
    have c2' := r3.cell (show 2 < 5 by omega)
    have c3' := r3.cell (show 3 < 5 by omega)
    have c4' := r3.cell (show 4 < 5 by omega)
    have f0 := r3.frozen 0
    have f1 := r3.frozen 1
    have f2 := r3.frozen 2
    have f3 := r3.frozen 3
    have f4 := r3.frozen 4
    have hz3 := r3.lt
    go_wp2
    obtain ⟨kz, kk⟩ := boxed_keep0 w3 (w.heap.size + 1) (.slice none 0 0) (.int .i64 0) (.int .i64 0) (.slice none 0 0) (.slice none 0 0)
    have OF := OwnM.none w.heap.size (((((w3.setCell ⟨w.heap.size + 1, 0, none⟩ (.slice none 0 0)).setCell ⟨w.heap.size + 1, 1, none⟩ (.int .i64 0)).setCell ⟨w.heap.size + 1, 2, none⟩ (.int .i64 0)).setCell ⟨w.heap.size + 1, 3, none⟩ (.slice none 0 0)).setCell ⟨w.heap.size + 1, 4, none⟩ (.slice none 0 0)) (by have := b3.size; omega)
    refine bodyPost_ret (v := .tuple #[.agg #[.slice none 0 0, .int .i64 0, .int .i64 0, .slice none 0 0, .slice none 0 0], .int .i64 code]) (by simp [results, Tryz.results21, go_sem, c0, c1', c2', c3', c4']) rfl ⟨_, md0, _, rfl, ⟨_, _, _, _, _, _, rfl, OF⟩, HB.out, ?_⟩
    repeat (first | exact b3 | refine Below.alloc ?_ (by simp only [size_setCell]; omega) _ | refine Below.setCell ?_ (by simp) _)
end Go.Proofs.YtmecbppblbmchaaGreatDoor

/- spec.Prune. -/
namespace Go.Proofs.YtmecbppblbmchaaGreatDoor
open Go.ChangeShapes Go.WideShapes Go.ChangeAt Go.RowKit Go.Maps Go.Sort
set_option linter.unusedVariables false
set_option maxRecDepth 100000
attribute [local go_sem ↓] Go.wp_at_zero Go.wp_at_succ

/-- Chains that a call has laid one behind another. -/
def COwn (base : Nat) (w : World) (ov : Value) (out : List Ch) (Bs : Nat → Nat) : Prop :=
  ∃ xs, w.ownsRow base 94 3 ov out.length xs ∧ (∀ j, j < out.length → xs[j * 3]? = some (.int .i64 (cAt out j).t) ∧ xs[j * 3 + 1]? = some (.int .i64 (cAt out j).r) ∧ ∃ c, (cAt out j).l.length ≤ c ∧ xs[j * 3 + 2]? = some (.slice (some ⟨Bs j, 0, none⟩) (cAt out j).l.length c)) ∧
    (∀ j, j < out.length → OwnV w (Bs j) (cAt out j).l ∧ base ≤ Bs j ∧ some (Bs j) ≠ ov.ownBlock) ∧ ∀ i j, i < j → j < out.length → Bs i ≠ Bs j

theorem COwn.nil (base : Nat) (w : World) : COwn base w (.slice none 0 0) [] (fun _ => 0) :=
  ⟨[], World.ownsRow_nil _ _ _ _, fun j hj => absurd hj (Nat.not_lt_zero _), fun j hj => absurd hj (Nat.not_lt_zero _), fun i j _ hj => absurd hj (Nat.not_lt_zero _)⟩

theorem COwn.stays {base : Nat} {w w' : World} {ov : Value} {out : List Ch} {Bs : Nat → Nat} (h : COwn base w ov out Bs) (hb : Below w.heap.size w w') : COwn base w' ov out Bs := by
  obtain ⟨xs, h1, h2, h3, h4⟩ := h
  refine ⟨xs, ownsRow_low h1 hb, h2, fun j hj => ?_, h4⟩
  obtain ⟨g1, g2, g3⟩ := h3 j hj
  exact ⟨g1.of_block (hb.block _ g1.lt), g2, g3⟩

theorem COwn.ownS {base lo : Nat} {w : World} {ov : Value} {out : List Ch} {Bs : Nat → Nat} (hlo : lo ≤ base) (h : COwn base w ov out Bs) : OwnS lo w ov out := by
  obtain ⟨xs, ⟨h1, ⟨h2, h3⟩ | ⟨b, cap, cur, rfl, hb, hh, hcap, hm, hc, ht⟩⟩, hx, hl, hd⟩ := h
  · exact .inl ⟨h2, List.eq_nil_of_length_eq_zero h3⟩
  · have hbl : b < w.heap.size := (Array.getElem?_eq_some_iff.1 hh).1
    refine .inr ⟨b, Bs, cap, rfl, by omega, hbl, fun j => xs.getD j (.int .i64 0), ⟨cur, hh, by rw [hc]; omega, fun j hj => ?_⟩, fun i hi => ?_, hd⟩
    · have e : (cur.toList.take (out.length * 3))[j]? = xs[j]? := by rw [ht]
      rw [List.getElem?_take_of_lt hj, Array.getElem?_toList] at e
      rw [e]
      have hj' : j < xs.length := by rw [h1]; exact hj
      simp [List.getD, List.getElem?_eq_getElem hj']
    · obtain ⟨g1, g2, c, gc, g3⟩ := hx i hi
      obtain ⟨k1, k2, k3⟩ := hl i hi
      exact ⟨by simp [List.getD, g1], by simp [List.getD, g2], ⟨c, gc, by simp [List.getD, g3]⟩, k1, by omega, k1.lt, fun e => k3 (by rw [e]; rfl)⟩

/-- What is kept of the first j versions. -/
def prT (l : List Vr) (h : Int) (j : Nat) : List Vr := (l.take j).drop (un l h - 1)
theorem prT_all (l : List Vr) (h : Int) : prT l h l.length = prL l h := by simp [prT, prL]
theorem prT_length (l : List Vr) (h : Int) {j : Nat} (hj : j ≤ l.length) : (prT l h j).length = j - (un l h - 1) := by simp [prT]; omega
theorem prT_yes (l : List Vr) (h : Int) {j : Nat} (hj : j < l.length) (hd : un l h - 1 ≤ j) : prT l h (j + 1) = prT l h j ++ [vAt l j] := by
  unfold prT
  have e : l.take (j + 1) = l.take j ++ [vAt l j] := by
    rw [List.take_add_one]
    simp [vAt, List.getD, List.getElem?_eq_getElem hj]
  rw [e, List.drop_append_of_le_length (by simp; omega)]
theorem prT_no (l : List Vr) (h : Int) {j : Nat} (hj : j < l.length) (hd : j < un l h - 1) : prT l h (j + 1) = prT l h j := by
  unfold prT
  rw [List.drop_eq_nil_of_le (by simp; omega), List.drop_eq_nil_of_le (by simp; omega)]

/-- The j-th version is kept just where it is the last one or the next one is later. -/
theorem keep_iff {l : List Vr} (hv : versOk l) (h : Int) {j : Nat} (hj : j < l.length) : (un l h - 1 ≤ j) ↔ (j + 1 = l.length ∨ h < (vAt l (j + 1)).1) := by
  obtain ⟨h1, h2, h3⟩ := un_is l h
  have later : ∀ i, un l h ≤ i → i < l.length → h < (vAt l i).1 := fun i a b => by
    have h4 := h3 (by omega)
    by_cases e : i = un l h
    · rw [e]; exact h4
    · have := vers_up hv (un l h) (i - un l h - 1) (by omega)
      rw [show un l h + (i - un l h - 1) + 1 = i by omega] at this
      omega
  constructor
  · intro hd
    by_cases e : j + 1 = l.length
    · exact .inl e
    · exact .inr (later _ (by omega) (by omega))
  · rintro (e | e)
    · omega
    · by_cases hd : j + 1 < un l h
      · have := h2 (j + 1) hd; omega
      · omega

theorem cAt_snoc_lt (out : List Ch) (c : Ch) {j : Nat} (hj : j < out.length) : cAt (out ++ [c]) j = cAt out j := by
  simp [cAt, List.getD, List.getElem?_append_left hj]
theorem cAt_snoc_eq (out : List Ch) (c : Ch) : cAt (out ++ [c]) out.length = c := by simp [cAt]

theorem ownV_of_owns {base : Nat} {w : World} {g cap : Nat} {l : List Vr} (h : w.ownsRow base 123 2 (.slice (some ⟨g, 0, none⟩) l.length cap) l.length (vcells l)) : OwnV w g l ∧ l.length ≤ cap := by
  obtain ⟨h1, ⟨h2, h3⟩ | ⟨b, cap', cur, e, hb, hh, hcap, hm, hc, ht⟩⟩ := h
  · cases h2
  · cases e
    refine ⟨⟨fun j => (vcells l).getD j (.int .i64 0), ⟨cur, hh, by rw [hc]; omega, fun j hj => ?_⟩, fun i hi => ?_⟩, hcap⟩
    · have e : (cur.toList.take (l.length * 2))[j]? = (vcells l)[j]? := by rw [ht]
      rw [List.getElem?_take_of_lt hj, Array.getElem?_toList] at e
      rw [e]
      have hj' : j < (vcells l).length := by rw [vcells_length]; exact hj
      simp [List.getD, List.getElem?_eq_getElem hj']
    · obtain ⟨g1, g2⟩ := vcells_get l i hi
      simp [List.getD, g1, g2]

theorem COwn.snoc {base : Nat} {wr w6 : World} {ov : Value} {out : List Ch} {Bs : Nat → Nat} {xs : List Value} (c : Ch) (g7 cap7 gg cap5 B2 : Nat) (o : Obj) (u : Value)
    (hxo : wr.ownsRow base 94 3 ov out.length xs) (hx2 : ∀ j, j < out.length → xs[j * 3]? = some (.int .i64 (cAt out j).t) ∧ xs[j * 3 + 1]? = some (.int .i64 (cAt out j).r) ∧ ∃ c, (cAt out j).l.length ≤ c ∧ xs[j * 3 + 2]? = some (.slice (some ⟨Bs j, 0, none⟩) (cAt out j).l.length c))
    (hx3 : ∀ j, j < out.length → OwnV wr (Bs j) (cAt out j).l ∧ base ≤ Bs j ∧ some (Bs j) ≠ ov.ownBlock) (hx4 : ∀ i j, i < j → j < out.length → Bs i ≠ Bs j)
    (hOV : OwnV wr g7 c.l) (hg7 : base ≤ g7) (hg7o : ∀ j, j < out.length → Bs j ≠ g7) (hg7v : some g7 ≠ ov.ownBlock) (hc : c.l.length ≤ cap7)
    (hown6 : w6.ownsRow base 94 3 (.slice (some ⟨gg, 0, none⟩) (out.length + 1) cap5) (out.length + 1) (xs ++ [.int .i64 c.t, .int .i64 c.r, .slice (some ⟨g7, 0, none⟩) c.l.length cap7]))
    (hgrow : (wr.alloc o).grownBy w6 ov.ownBlock) (hat6 : ov.ownBlock = some gg ∨ gg = wr.heap.size + 1) (hB2 : B2 < base) :
    COwn base (w6.setCell ⟨B2, 0, none⟩ u) (.slice (some ⟨gg, 0, none⟩) (out.length + 1) cap5) (out ++ [c]) (upd Bs out.length g7) := by
  have e1 : ∀ j, base ≤ j → (w6.setCell ⟨B2, 0, none⟩ u).heap[j]? = w6.heap[j]? := fun j hj => Below.heap_setCell _ _ _ _ (show j ≠ B2 by omega)
  have hA : wr.grownBy w6 ov.ownBlock := gb_trans (gb_below _ (below_alloc wr o)) hgrow
  have hxl : xs.length = out.length * 3 := hxo.1
  have ngg : ∀ B, B < wr.heap.size → some B ≠ ov.ownBlock → B ≠ gg := fun B hB hne e => by
    rcases hat6 with h | h
    · exact hne (by rw [h, e])
    · omega
  refine ⟨xs ++ [.int .i64 c.t, .int .i64 c.r, .slice (some ⟨g7, 0, none⟩) c.l.length cap7], ⟨?_, ?_⟩, fun j hj => ?_, fun j hj => ?_, fun i j hij hj => ?_⟩
  · simp [hxl]; omega
  · rw [List.length_append, List.length_singleton]
    rcases hown6.2 with ⟨h2, _⟩ | ⟨g', cap', cur, hv, hg, hh, r⟩
    · cases h2
    · exact .inr ⟨g', cap', cur, hv, hg, by rw [e1 g' hg]; exact hh, r⟩
  · by_cases hjl : j < out.length
    · rw [cAt_snoc_lt out c hjl, upd_other Bs (by omega)]
      obtain ⟨a1, a2, cc, a3, a4⟩ := hx2 j hjl
      rw [List.getElem?_append_left (by omega), List.getElem?_append_left (by omega), List.getElem?_append_left (by omega)]
      exact ⟨a1, a2, cc, a3, a4⟩
    · obtain rfl : j = out.length := by simp at hj; omega
      rw [cAt_snoc_eq, upd_same, List.getElem?_append_right (by omega), List.getElem?_append_right (by omega), List.getElem?_append_right (by omega), hxl]
      refine ⟨?_, ?_, cap7, hc, ?_⟩
      · rw [show out.length * 3 - out.length * 3 = 0 by omega]; rfl
      · rw [show out.length * 3 + 1 - out.length * 3 = 1 by omega]; rfl
      · rw [show out.length * 3 + 2 - out.length * 3 = 2 by omega]; rfl
  · by_cases hjl : j < out.length
    · rw [cAt_snoc_lt out c hjl, upd_other Bs (by omega)]
      obtain ⟨a1, a2, a3⟩ := hx3 j hjl
      refine ⟨a1.of_block (by rw [e1 _ a2, hA.block _ a1.lt a3]), a2, fun e => ngg _ a1.lt a3 (by simpa [Value.ownBlock] using e)⟩
    · obtain rfl : j = out.length := by simp at hj; omega
      rw [cAt_snoc_eq, upd_same]
      exact ⟨hOV.of_block (by rw [e1 _ hg7, hA.block _ hOV.lt hg7v]), hg7, fun e => ngg _ hOV.lt hg7v (by simpa [Value.ownBlock] using e)⟩
  · rw [upd_other Bs (show i ≠ out.length by simp at hj; omega)]
    by_cases hjl : j < out.length
    · rw [upd_other Bs (by omega)]; exact hx4 i j hij hjl
    · obtain rfl : j = out.length := by simp at hj; omega
      rw [upd_same]; exact hg7o i hij

theorem prune_take (l : List Ch) (h : Int) {k : Nat} (hk : k < l.length) : (prune l h).take (k + 1) = (prune l h).take k ++ [⟨(cAt l k).t, (cAt l k).r, prL (cAt l k).l h⟩] := by
  have hp : k < (prune l h).length := by rw [prune_length]; exact hk
  rw [List.take_add_one, List.getElem?_eq_getElem hp]
  have := prune_at l h hk
  simp [cAt, List.getD, List.getElem?_eq_getElem hp] at this
  simp [this, cAt]

theorem vcells_snocP (l : List Vr) (x : Vr) : vcells (l ++ [x]) = vcells l ++ [.int .i64 x.1, .int .i64 x.2] := by simp [vcells]

end Go.Proofs.YtmecbppblbmchaaGreatDoor

/- spec.Prune: the contract. -/
namespace Go.Proofs.YtmecbppblbmchaaGreatDoor
open Go.ChangeShapes Go.WideShapes Go.ChangeAt Go.RowKit Go.Maps Go.Sort
set_option linter.unusedVariables false
set_option maxRecDepth 100000
attribute [local go_sem ↓] Go.wp_at_zero Go.wp_at_succ

theorem hS_in (wr wq : World) (iv : Value) (b3 off3 j : Nat) (x : Vr) {xs : List Value} {n : Nat} (hvo : wq.ownsRow (wr.heap.size + 1) 123 2 iv n xs) (t3 : wq.frozen? ⟨wr.heap.size, 2, none⟩ = false)
    (e0 : wq.cell? ⟨b3, off3 + j * 2, none⟩ = some (.int .i64 x.1)) (e1 : wq.cell? ⟨b3, off3 + j * 2 + 1, none⟩ = some (.int .i64 x.2)) (lb3 : b3 < wr.heap.size) (hzq : wr.heap.size < wq.heap.size) :
    ∀ y, wq.grownBy y iv.ownBlock → y.frozen? ⟨wr.heap.size, 2, none⟩ = false ∧ y.cell? ⟨b3, off3 + j * 2, none⟩ = some (.int .i64 x.1) ∧ y.cell? ⟨b3, off3 + j * 2 + 1, none⟩ = some (.int .i64 x.2) := by
  intro y hy
  have n1 : some wr.heap.size ≠ iv.ownBlock := fun e => by have := (hvo.lt _ e.symm).1; omega
  have n2 : some b3 ≠ iv.ownBlock := fun e => by have := (hvo.lt _ e.symm).1; omega
  exact ⟨(hy.frozen_far _ hzq n1).trans t3, (hy.cell_far _ (show b3 < _ by omega) n2).trans e0, (hy.cell_far _ (show b3 < _ by omega) n2).trans e1⟩
theorem hS_in1 (wr wq : World) (iv : Value) (b3 off3 j : Nat) (x : Vr) {xs : List Value} {n : Nat} (hvo : wq.ownsRow (wr.heap.size + 1) 123 2 iv n xs) (t3 : wq.frozen? ⟨wr.heap.size, 2, none⟩ = false)
    (e0 : wq.cell? ⟨b3, off3 + j * 2, none⟩ = some (.int .i64 x.1)) (e1 : wq.cell? ⟨b3, off3 + j * 2 + 1, none⟩ = some (.int .i64 x.2)) (lb3 : b3 < wr.heap.size) (hzq : wr.heap.size < wq.heap.size) :
    ∀ y u, wq.grownBy y iv.ownBlock → (y.setCell ⟨wr.heap.size, 2, none⟩ u).frozen? ⟨wr.heap.size, 2, none⟩ = false ∧ (y.setCell ⟨wr.heap.size, 2, none⟩ u).cell? ⟨b3, off3 + j * 2, none⟩ = some (.int .i64 x.1) ∧ (y.setCell ⟨wr.heap.size, 2, none⟩ u).cell? ⟨b3, off3 + j * 2 + 1, none⟩ = some (.int .i64 x.2) := by
  intro y u hy
  obtain ⟨s1, s2, s3⟩ := hS_in wr wq iv b3 off3 j x hvo t3 e0 e1 lb3 hzq y hy
  have e : (y.setCell ⟨wr.heap.size, 2, none⟩ u).heap[b3]? = y.heap[b3]? := Below.heap_setCell _ _ _ _ (show b3 ≠ wr.heap.size by omega)
  exact ⟨by rw [World.frozen?_setCell]; exact s1, cell_same e s2, cell_same e s3⟩

theorem inner_rel (wr wq w6 : World) (iv : Value) (gg cap5 : Nat) (o : Obj) (p : List Vr) (x : Vr) (tv rv : Value) (hbq : Below wr.heap.size wr wq) (t0 : wq.cell? ⟨wr.heap.size, 0, none⟩ = some tv) (t1 : wq.cell? ⟨wr.heap.size, 1, none⟩ = some rv) (t2 : wq.cell? ⟨wr.heap.size, 2, none⟩ = some iv) (t3 : wq.frozen? ⟨wr.heap.size, 2, none⟩ = false)
    (hvo : wq.ownsRow (wr.heap.size + 1) 123 2 iv p.length (vcells p)) (hown6 : w6.ownsRow (wr.heap.size + 1) 123 2 (.slice (some ⟨gg, 0, none⟩) (p.length + 1) cap5) (p.length + 1) (vcells p ++ [.int .i64 x.1, .int .i64 x.2])) (hgrow : (wq.alloc o).drew.grownBy w6 iv.ownBlock) :
    Below wr.heap.size wr (w6.setCell ⟨wr.heap.size, 2, none⟩ (.slice (some ⟨gg, 0, none⟩) (p.length + 1) cap5)) ∧ (w6.setCell ⟨wr.heap.size, 2, none⟩ (.slice (some ⟨gg, 0, none⟩) (p.length + 1) cap5)).cell? ⟨wr.heap.size, 0, none⟩ = some tv ∧ (w6.setCell ⟨wr.heap.size, 2, none⟩ (.slice (some ⟨gg, 0, none⟩) (p.length + 1) cap5)).cell? ⟨wr.heap.size, 1, none⟩ = some rv ∧
      (w6.setCell ⟨wr.heap.size, 2, none⟩ (.slice (some ⟨gg, 0, none⟩) (p.length + 1) cap5)).cell? ⟨wr.heap.size, 2, none⟩ = some (.slice (some ⟨gg, 0, none⟩) (p.length + 1) cap5) ∧ (w6.setCell ⟨wr.heap.size, 2, none⟩ (.slice (some ⟨gg, 0, none⟩) (p.length + 1) cap5)).frozen? ⟨wr.heap.size, 2, none⟩ = false ∧
      (w6.setCell ⟨wr.heap.size, 2, none⟩ (.slice (some ⟨gg, 0, none⟩) (p.length + 1) cap5)).ownsRow (wr.heap.size + 1) 123 2 (.slice (some ⟨gg, 0, none⟩) (p.length + 1) cap5) (p ++ [x]).length (vcells (p ++ [x])) := by
  have hA : wq.grownBy w6 iv.ownBlock := gb_trans (gb_below _ (below_alloc wq o).drew) hgrow
  have hzq : wr.heap.size < wq.heap.size := cell_lt t2
  have n1 : some wr.heap.size ≠ iv.ownBlock := fun e => by have := (hvo.lt _ e.symm).1; omega
  have s0 := (hA.cell_far ⟨wr.heap.size, 0, none⟩ hzq n1).trans t0
  have s1 := (hA.cell_far ⟨wr.heap.size, 1, none⟩ hzq n1).trans t1
  have s2 := (hA.cell_far ⟨wr.heap.size, 2, none⟩ hzq n1).trans t2
  have s3 := (hA.frozen_far ⟨wr.heap.size, 2, none⟩ hzq n1).trans t3
  refine ⟨⟨hA.os.trans hbq.os, hA.tape.trans hbq.tape, hA.output.trans hbq.output, ?_, fun j hj => ?_⟩, ?_, ?_, ?_, ?_, ?_⟩
  · rw [size_setCell]; exact Nat.le_trans hbq.size hA.size
  · rw [Below.heap_setCell _ _ _ _ (show j ≠ wr.heap.size by omega), hA.block j (by omega) (fun e => by have := (hvo.lt _ e.symm).1; omega), hbq.block j hj]
  · exact (World.cell?_setCell_other _ ⟨wr.heap.size, 2, none⟩ ⟨wr.heap.size, 0, none⟩ _ (by simp)).trans s0
  · exact (World.cell?_setCell_other _ ⟨wr.heap.size, 2, none⟩ ⟨wr.heap.size, 1, none⟩ _ (by simp)).trans s1
  · exact World.cell?_setCell_same' _ _ _ (by rw [s2]; rfl)
  · rw [World.frozen?_setCell]; exact s3
  · rw [vcells_snocP, List.length_append, List.length_singleton]
    obtain ⟨h1, h2⟩ := hown6
    refine ⟨h1, ?_⟩
    rcases h2 with ⟨h2, _⟩ | ⟨g', cap', cur, hv, hg, hh, r⟩
    · cases h2
    · exact .inr ⟨g', cap', cur, hv, hg, by rw [Below.heap_setCell _ _ _ _ (show g' ≠ wr.heap.size by omega)]; exact hh, r⟩

set_option maxHeartbeats 4000000 in
theorem specPrune_own (v : Value) (l : List Ch) (h : Int) (w : World) {lo hi : Nat} (hl : ChainsAt lo hi w v l) (hn : Small l) :
    Calls Tryz.prog 89 #[.agg #[v], .int .i64 h] w fun e w' => ∃ v' out, e = .returned (.agg #[v']) ∧ PAns l h out ∧ OwnS w.heap.size w' v' out ∧ Below w.heap.size w w' := by
  have hl2 := hl
  obtain ⟨a, cap, hv, hm, hc⟩ := hl2
  subst hv
  obtain ⟨iC, hIC, hC0, hC1, hC2⟩ := info_parts infoChain'
  obtain ⟨iV, hIV, hV0, hV1, hV2⟩ := info_parts infoVer
  have hbx : Below w.heap.size w (((w.alloc (Obj.cells #[Value.slice a l.length cap] 32)).alloc (Obj.cells #[Value.slice none 0 0] 32)).alloc (Obj.cells #[Value.slice none 0 0] 32)) := (((Below.refl _ _).alloc (Nat.le_refl _) _).alloc (by simp) _).alloc (by simp; omega) _
  go_enter Tryz.func89, Tryz.ntmps89
  go_wp2_with fail
  refine (specStoreOk_any _ l _ (hl.stays hbx)).mono ?_
  rintro e w1 ⟨⟨q, rfl, hq⟩, hb1⟩
  have b1 := hbx.trans (hb1.mono hbx.size)
  have p0 : w1.cell? ⟨w.heap.size, 0, none⟩ = some (.slice a l.length cap) := cell_stays hb1 (by simp [go_sem])
  have p1 : w1.cell? ⟨w.heap.size + 1, 0, none⟩ = some (.slice none 0 0) := cell_stays hb1 (by simp [go_sem])
  have q1 : w1.frozen? ⟨w.heap.size + 1, 0, none⟩ = false := by rw [hb1.frozen (by simp)]; simp [go_sem]
  have p2 : w1.cell? ⟨w.heap.size + 1 + 1, 0, none⟩ = some (.slice none 0 0) := cell_stays hb1 (by simp [go_sem])
  have q2 : w1.frozen? ⟨w.heap.size + 1 + 1, 0, none⟩ = false := by rw [hb1.frozen (by simp)]; simp [go_sem]
  have z1 : w.heap.size + 1 + 1 < w1.heap.size := cell_lt p2
  clear hb1 hbx
  by_cases hs : storeOk l
  · obtain rfl := hq.2 hs
    clear hq
    by_cases hh : hourB h = true
    · have h200 := hs.1
      go_wp2_with (first | (go_at_call 58; refine (l1hour_any _ _).mono ?_; rintro e w2 ⟨rfl, rfl⟩))
      go_loopw [6] (fun i wr => ∃ (k : Nat) (ov : Value) (Bs : Nat → Nat), k ≤ l.length ∧ i = .int .i64 k ∧ w2.grownBy wr (some (w.heap.size + 1 + 1)) ∧ wr.cell? ⟨w.heap.size + 1 + 1, 0, none⟩ = some ov ∧ wr.frozen? ⟨w.heap.size + 1 + 1, 0, none⟩ = false ∧ COwn w2.heap.size wr ov ((prune l h).take k) Bs) (fun i _ => l.length - (intOf i).toNat)
      case atStart => exact ⟨0, _, _, Nat.zero_le _, rfl, gb_below _ (Below.refl _ _), p2, q2, COwn.nil _ _⟩
      case round =>
        obtain ⟨k, ov, Bs, hk, rfl, hB, pv, qv, hco⟩ := hrel
        have bwr : Below w.heap.size w wr := b1.trans ⟨hB.os, hB.tape, hB.output, hB.size, fun j hj => hB.block j (by omega) (by intro e; injection e with e; omega)⟩
        have r0 : wr.cell? ⟨w.heap.size, 0, none⟩ = some (.slice a l.length cap) := (hB.cell_far _ (by show w.heap.size < _; omega) (by intro e; injection e with e; simp at e; omega)).trans p0
        have hsB := hB.size
        by_cases hlt : k < l.length
        · obtain ⟨b, off, rfl, hlo, hhi, hcc⟩ := hc (by omega)
          obtain ⟨c0, c1, a2, cap2, c2, c3⟩ := hcc k hlt
          replace c0 := cell_stays bwr c0
          replace c1 := cell_stays bwr c1
          replace c2 := cell_stays bwr c2
          replace c3 := c3.stays bwr
          have vk := (hs.2 k hlt).2.2
          clear hcc hc
          obtain ⟨L, hL⟩ : ∃ L, (cAt l k).l = L := ⟨_, rfl⟩
          rw [hL] at c2 c3 vk
          obtain ⟨b3, off3, rfl, hlo3, hhi3, hc3⟩ : ∃ b off, a2 = some ⟨b, off, none⟩ ∧ lo ≤ b ∧ b < hi ∧ ∀ i, i < L.length → wr.cell? ⟨b, off + i * 2, none⟩ = some (.int .i64 (vAt L i).1) ∧ wr.cell? ⟨b, off + i * 2 + 1, none⟩ = some (.int .i64 (vAt L i).2) := by
            obtain ⟨a3, cap3, e3, hm3, hc3⟩ := c3
            cases e3
            exact hc3 (by have := vk.1; omega)
          clear c3
          have rA := fun o => cell_stays (below_alloc wr o) r0
          have cA := fun o => cell_stays (below_alloc wr o) c2
          go_wp2_with fail
          generalize wr = wo at *
          go_loopw [9] (fun i wr => ∃ (j : Nat) (iv : Value), j ≤ L.length ∧ i = .int .i64 j ∧ Below wo.heap.size wo wr ∧ wr.cell? ⟨wo.heap.size, 0, none⟩ = some (.int .i64 (cAt l k).t) ∧ wr.cell? ⟨wo.heap.size, 1, none⟩ = some (.int .i64 (cAt l k).r) ∧ wr.cell? ⟨wo.heap.size, 2, none⟩ = some iv ∧ wr.frozen? ⟨wo.heap.size, 2, none⟩ = false ∧ wr.ownsRow (wo.heap.size + 1) 123 2 iv (prT L h j).length (vcells (prT L h j))) (fun i _ => L.length - (intOf i).toNat)
          case atStart => exact ⟨0, .slice none 0 0, Nat.zero_le _, rfl, below_alloc _ _, by simp [go_sem], by simp [go_sem], by simp [go_sem], by simp [go_sem], by simpa [prT, vcells] using World.ownsRow_nil _ _ _ _⟩
          case round =>
            obtain ⟨j, iv, hj, rfl, hbq, t0, t1, t2, t3, hvo⟩ := hrel
            have hul := (un_is L h).1
            have hl2 := vk.2.1
            have hpl : (prT L h j).length ≤ 200 := by rw [prT_length L h hj]; omega
            have hzq : wo.heap.size < wr.heap.size := cell_lt t2
            by_cases hjl : j < L.length
            · have e0 := cell_stays hbq (hc3 j hjl).1
              have e1 := cell_stays hbq (hc3 j hjl).2
              have lb3 := cell_lt (hc3 j hjl).1
              have HS0 : Hid (∀ x, wr.grownBy x iv.ownBlock → _) := hS_in wo wr iv b3 off3 j (vAt L j) hvo t3 e0 e1 lb3 hzq
              have HS1 : Hid (∀ x u, wr.grownBy x iv.ownBlock → _) := hS_in1 wo wr iv b3 off3 j (vAt L j) hvo t3 e0 e1 lb3 hzq
              have n1 : some wo.heap.size ≠ iv.ownBlock := fun e => by have := (hvo.lt _ e.symm).1; omega
              have HQ : Hid (∀ x, wr.grownBy x iv.ownBlock → x.cell? ⟨wo.heap.size, 2, none⟩ = some iv) := fun x hx => (hx.cell_far ⟨wo.heap.size, 2, none⟩ hzq n1).trans t2
              have tA := fun o => cell_stays (below_alloc wr o) t2
              by_cases hlast : j + 1 = L.length
              · have hd := (keep_iff vk h hjl).2 (.inl hlast)
                have hlast' : (j : Int) + 1 = (L.length : Int) := by omega
                clear hc3
                go_wp2_with fail
                go_region_law ((refine step_append_lies _ (by rfl) _ _ _ (by rfl) (wo.heap.size + 1) 123 iV _ 2 16 Tryz.underlying92 hIV hV0 hV1 hV2 rfl (by omega) iv (prT L h j).length (vcells (prT L h j)) (by rfl) ((hvo.alloc _).drew) ⟨wr.heap.size, 0, none⟩ 1 1 [.int .i64 (vAt L j).1, .int .i64 (vAt L j).2] (by rfl) (by rfl) (World.news_of_block (heap_alloc_new wr _)) (by simp [Value.oneCell']) (by omega) (by unfold maxLen; omega) (by omega) (by simp; omega) (wr.heap.size + 1) (by simp) ?_; intro gg cap5 w6 hown6 hgrow hat6 hlt6; have p6 := HQ.out _ (gb_trans (gb_below _ (below_alloc _ _).drew) hgrow); have f6 := (HS0.out _ (gb_trans (gb_below _ (below_alloc _ _).drew) hgrow)).1))
                all_goals (
                  go_wp2
                  go_roundw
                  case rel =>
                    obtain ⟨r1, r2, r3, r4, r5, r6⟩ := inner_rel wo wr w6 iv gg cap5 _ (prT L h j) (vAt L j) _ _ hbq t0 t1 t2 t3 hvo hown6 hgrow
                    exact ⟨j + 1, _, by omega, by go_num, r1, r2, r3, r4, r5, by rw [prT_yes L h hjl hd]; simpa using r6⟩
                  case measure => simp [intOf]; omega)
              · have e2 := cell_stays hbq (hc3 (j + 1) (by omega)).1
                have hlast' : ¬ (j : Int) + 1 = (L.length : Int) := by omega
                clear hc3
                by_cases hg : h < (vAt L (j + 1)).1
                · have hd := (keep_iff vk h hjl).2 (.inr hg)
                  go_wp2_with fail
                  go_region_law ((refine step_append_lies _ (by rfl) _ _ _ (by rfl) (wo.heap.size + 1) 123 iV _ 2 16 Tryz.underlying92 hIV hV0 hV1 hV2 rfl (by omega) iv (prT L h j).length (vcells (prT L h j)) (by rfl) ((hvo.alloc _).drew) ⟨wr.heap.size, 0, none⟩ 1 1 [.int .i64 (vAt L j).1, .int .i64 (vAt L j).2] (by rfl) (by rfl) (World.news_of_block (heap_alloc_new wr _)) (by simp [Value.oneCell']) (by omega) (by unfold maxLen; omega) (by omega) (by simp; omega) (wr.heap.size + 1) (by simp) ?_; intro gg cap5 w6 hown6 hgrow hat6 hlt6; have p6 := HQ.out _ (gb_trans (gb_below _ (below_alloc _ _).drew) hgrow); have f6 := (HS0.out _ (gb_trans (gb_below _ (below_alloc _ _).drew) hgrow)).1))
                  all_goals (
                    go_wp2
                    go_roundw
                    case rel =>
                      obtain ⟨r1, r2, r3, r4, r5, r6⟩ := inner_rel wo wr w6 iv gg cap5 _ (prT L h j) (vAt L j) _ _ hbq t0 t1 t2 t3 hvo hown6 hgrow
                      exact ⟨j + 1, _, by omega, by go_num, r1, r2, r3, r4, r5, by rw [prT_yes L h hjl hd]; simpa using r6⟩
                    case measure => simp [intOf]; omega)
                · have hd : j < un L h - 1 := Nat.lt_of_not_le fun hle => hg (((keep_iff vk h hjl).1 hle).resolve_left hlast)
                  go_wp2
                  go_roundw
                  case rel => exact ⟨j + 1, iv, by omega, by go_num, hbq, t0, t1, t2, t3, by rw [prT_no L h hjl hd]; exact hvo⟩
                  case measure => simp [intOf]; omega
            · obtain rfl : j = L.length := by omega
              rw [prT_all] at hvo hpl
              have hpos : 0 < (prL L h).length := by rw [prL_length]; have := vk.1; omega
              obtain ⟨g7, cap7, rfl, hg7, hg7'⟩ := hvo.form hpos
              have u0 := cell_stays hbq pv
              have u1 : wr.frozen? ⟨w.heap.size + 1 + 1, 0, none⟩ = false := by rw [hbq.frozen (cell_lt pv)]; exact qv
              obtain ⟨xs, hxo, hx2, hx3, hx4⟩ := hco
              have hkk : ((prune l h).take k).length = k := by rw [List.length_take, prune_length]; omega
              have hxo' := ownsRow_low hxo hbq
              rw [hkk] at hxo'
              obtain ⟨hOV, hcap7⟩ := ownV_of_owns hvo
              have HX : Hid (∀ gg cap5 (w6 : World) o u, w6.ownsRow w2.heap.size 94 3 (.slice (some ⟨gg, 0, none⟩) (k + 1) cap5) (k + 1) (xs ++ [.int .i64 (cAt l k).t, .int .i64 (cAt l k).r, .slice (some ⟨g7, 0, none⟩) (prL L h).length cap7]) → (wr.alloc o).grownBy w6 ov.ownBlock → (ov.ownBlock = some gg ∨ gg = wr.heap.size + 1) →
                  COwn w2.heap.size (w6.setCell ⟨w.heap.size + 1 + 1, 0, none⟩ u) (.slice (some ⟨gg, 0, none⟩) (k + 1) cap5) ((prune l h).take (k + 1)) (upd Bs k g7)) := fun gg cap5 w6 o u h6 hgr hat => by
                have := COwn.snoc (base := w2.heap.size) (wr := wr) (w6 := w6) (ov := ov) (out := (prune l h).take k) (Bs := Bs) (xs := xs) ⟨(cAt l k).t, (cAt l k).r, prL L h⟩ g7 cap7 gg cap5 (w.heap.size + 1 + 1) o u (by rw [hkk]; exact hxo') hx2
                  (fun j hj => by obtain ⟨a1, a2, a3⟩ := hx3 j hj; exact ⟨a1.of_block (hbq.block _ a1.lt), a2, a3⟩) hx4 hOV (by omega) (fun j hj => by have := (hx3 j hj).1.lt; omega) (fun e => by have := (hxo.lt _ e.symm).2; omega) hcap7 (by rw [hkk]; exact h6) hgr hat (by omega)
                rw [hkk] at this
                rw [prune_take l h hlt, hL]
                exact this
              have hob : ∀ j, ov.ownBlock = some j → w2.heap.size ≤ j ∧ j < wo.heap.size := fun j hj => hxo.lt j hj
              have n2 : some (w.heap.size + 1 + 1) ≠ ov.ownBlock := fun e => by have := (hob _ e.symm).1; omega
              have HU : Hid (∀ o (x : World), (wr.alloc o).grownBy x ov.ownBlock → x.cell? ⟨w.heap.size + 1 + 1, 0, none⟩ = some ov ∧ x.frozen? ⟨w.heap.size + 1 + 1, 0, none⟩ = false ∧ ∀ u, w2.grownBy (x.setCell ⟨w.heap.size + 1 + 1, 0, none⟩ u) (some (w.heap.size + 1 + 1))) := fun o x hx => by
                have hA : wr.grownBy x ov.ownBlock := gb_trans (gb_below _ (below_alloc wr o)) hx
                refine ⟨(hA.cell_far _ (cell_lt u0) n2).trans u0, (hA.frozen_far _ (cell_lt u0) n2).trans u1, fun u => ⟨hA.os.trans (hbq.os.trans hB.os), hA.tape.trans (hbq.tape.trans hB.tape), hA.output.trans (hbq.output.trans hB.output), ?_, fun j hj hne => ?_⟩⟩
                · rw [size_setCell]; exact Nat.le_trans hB.size (Nat.le_trans hbq.size hA.size)
                · rw [Below.heap_setCell _ _ _ _ (show j ≠ w.heap.size + 1 + 1 from fun e => hne (by rw [e])), hA.block j (by omega) (fun e => by have := (hob j e.symm).1; omega), hbq.block j (by omega), hB.block j hj hne]
              have hsz := hbq.size
              clear hc3 hkk hx2 hx3 hx4 hxo hob
              go_wp2_with (at_builtin; refine wpList_append_lies _ rfl _ _ 30 rfl w2.heap.size 94 iC _ 3 40 Tryz.underlying30 hIC hC0 hC1 hC2 rfl (by decide) _ k xs rfl (hxo'.alloc _) ⟨wr.heap.size, 0, none⟩ 1 1 [.int .i64 (cAt l k).t, .int .i64 (cAt l k).r, .slice (some ⟨g7, 0, none⟩) (prL L h).length cap7] rfl rfl (World.news_of_block (heap_alloc_new wr _)) (by simp [Value.oneCell']) (by omega) (by unfold maxLen; omega) (by omega) (by simp; omega) (wr.heap.size + 1) (by simp) ?_; intro gg cap5 w6 hown6 hgrow hat6 hlt6; obtain ⟨p6, f6, _⟩ := HU.out _ _ hgrow)
              go_roundw
              case rel => exact ⟨k + 1, _, _, by omega, by go_num, (HU.out _ _ hgrow).2.2 _, World.cell?_setCell_same' _ _ _ (by rw [p6]; rfl), by rw [World.frozen?_setCell]; exact f6, HX.out _ _ _ _ _ hown6 hgrow hat6⟩
              case measure => simp [intOf]; omega
        · obtain rfl : k = l.length := by omega
          have e7 : (prune l h).take l.length = prune l h := by rw [← prune_length l h]; exact List.take_length
          rw [e7] at hco
          have hO := hco.ownS (lo := w2.heap.size) (Nat.le_refl _)
          obtain ⟨a6, n6, c6, rfl⟩ := hO.form
          have d0 : wr.cell? ⟨w.heap.size + 1, 0, none⟩ = some (.slice none 0 0) := (hB.cell_far _ (show w.heap.size + 1 < _ by omega) (by intro e; injection e with e; simp at e)).trans p1
          have d1 : wr.frozen? ⟨w.heap.size + 1, 0, none⟩ = false := (hB.frozen_far _ (show w.heap.size + 1 < _ by omega) (by intro e; injection e with e; simp at e)).trans q1
          clear hc hco
          go_wp2
          refine bodyPost_ret (v := .agg #[.slice a6 n6 c6]) ?_ rfl ⟨_, prune l h, rfl, .inr ⟨⟨hs, hh⟩, rfl⟩, (hO.set (by omega) _).wide (by omega), bwr.setCell (by simp) _⟩
          simp [results, Tryz.results89, go_sem, d0]
    · have hh' : hourB h = false := by simpa using hh
      clear hc
      go_wp2_with (first | (go_at_call 58; refine (l1hour_any _ _).mono ?_; rintro e w2 ⟨rfl, rfl⟩))
      refine bodyPost_ret (v := .agg #[.slice none 0 0]) ?_ rfl ⟨_, [], rfl, .inl ⟨fun h => hh h.2, rfl⟩, .inl ⟨rfl, rfl⟩, ?_⟩
      · simp [results, Tryz.results89, go_sem, p1]
      · exact b1.setCell (by simp) _
  · obtain rfl := says_false hq hs
    clear hq hc
    go_wp2
    refine bodyPost_ret (v := .agg #[.slice none 0 0]) ?_ rfl ⟨_, [], rfl, .inl ⟨fun h => hs h.1, rfl⟩, .inl ⟨rfl, rfl⟩, ?_⟩
    · simp [results, Tryz.results89, go_sem, p1]
    · exact b1.setCell (by simp) _

end Go.Proofs.YtmecbppblbmchaaGreatDoor
