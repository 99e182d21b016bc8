/- For every store and hour, the exact law of Prune returns true and the store reads afterwards as it read before. -/
import Derived.Test.YtgohdlgnmlekdajSpecPrune2
import Derived.Test.YtgohdlgnmlekdajHeld
import Derived.Test.YtgohdlgnmlekdajOpen
import Derived.ChangeOld
namespace Go.Proofs.Ytgohdlgnmlekdaj
open Go.ChangeShapes Go.WideShapes Go.ChangeAt Go.RowKit Go.Sort
set_option linter.unusedVariables false
set_option maxRecDepth 100000
attribute [local go_sem ↓] Go.wp_at_zero Go.wp_at_succ

theorem OwnS.chains {lo : Nat} {w : World} {v : Value} {l : List Ch} (h : OwnS lo w v l) (hn : Small l) : ChainsAt lo w.heap.size w v l := by
  rcases h with ⟨rfl, rfl⟩ | ⟨b, Bs, cap, rfl, ho⟩
  · exact ⟨none, 0, rfl, Nat.zero_le _, fun hp => absurd hp (Nat.lt_irrefl _)⟩
  · exact ho.chains hn
theorem OwnS.stays {lo : Nat} {w w' : World} {v : Value} {l : List Ch} (h : OwnS lo w v l) (hb : Below w.heap.size w w') : OwnS lo w' v l := by
  rcases h with h | ⟨b, Bs, cap, h, ho⟩
  · exact .inl h
  · exact .inr ⟨b, Bs, cap, h, (ho.stays hb).wide (Nat.le_refl _) hb.size⟩
/-- The same in a world that has turned below lo only. -/
theorem OwnS.keep {lo : Nat} {w w' : World} {v : Value} {l : List Ch} (h : OwnS lo w v l) (hs : ∀ k, lo ≤ k → k < w.heap.size → w'.heap[k]? = w.heap[k]?) (hz : w.heap.size ≤ w'.heap.size) : OwnS lo w' v l := by
  rcases h with h | ⟨b, Bs, cap, h, ho⟩
  · exact .inl h
  · exact .inr ⟨b, Bs, cap, h, (ho.keep fun k h1 h2 h3 => hs k h1 h3).wide (Nat.le_refl _) hz⟩

theorem PAns.one {l : List Ch} {h : Int} {a b : List Ch} (ha : PAns l h a) (hb : PAns l h b) : a = b := by
  rcases ha with ⟨h1, rfl⟩ | ⟨h1, rfl⟩ <;> rcases hb with ⟨g1, rfl⟩ | ⟨g1, rfl⟩
  · rfl
  · exact absurd g1 h1
  · exact absurd h1 g1
  · rfl
theorem PAns.small {l : List Ch} {h : Int} {a : List Ch} (ha : PAns l h a) (hn : Small l) : Small a := by
  rcases ha with ⟨h1, rfl⟩ | ⟨h1, rfl⟩
  · exact ⟨Nat.zero_le _, fun i hi => absurd hi (Nat.not_lt_zero _)⟩
  · refine ⟨by rw [prune_length]; exact hn.1, fun i hi => ?_⟩
    rw [prune_length] at hi
    rw [prune_at l h hi]
    have := hn.2 i hi
    show (prL _ _).length ≤ _
    rw [prL_length]; omega

/-- As OwnS, in blocks ahead of hi. -/
def OwnT (lo hi : Nat) (w : World) (v : Value) (l : List Ch) : Prop := (v = .slice none 0 0 ∧ l = []) ∨ ∃ b Bs cap, v = .slice (some ⟨b, 0, none⟩) l.length cap ∧ OwnC lo hi w b Bs l
theorem OwnT.chains {lo hi : Nat} {w : World} {v : Value} {l : List Ch} (h : OwnT lo hi w v l) (hn : Small l) : ChainsAt lo hi w v l := by
  rcases h with ⟨rfl, rfl⟩ | ⟨b, Bs, cap, rfl, ho⟩
  · exact ⟨none, 0, rfl, Nat.zero_le _, fun hp => absurd hp (Nat.lt_irrefl _)⟩
  · exact ho.chains hn
theorem OwnT.keep {lo hi : Nat} {w w' : World} {v : Value} {l : List Ch} (h : OwnT lo hi w v l) (hs : ∀ k, lo ≤ k → k < hi → k < w.heap.size → w'.heap[k]? = w.heap[k]?) : OwnT lo hi w' v l := by
  rcases h with h | ⟨b, Bs, cap, h, ho⟩
  · exact .inl h
  · exact .inr ⟨b, Bs, cap, h, ho.keep hs⟩
theorem OwnT.stays {lo hi : Nat} {w w' : World} {v : Value} {l : List Ch} (h : OwnT lo hi w v l) (hb : Below w.heap.size w w') : OwnT lo hi w' v l := h.keep fun k _ _ hk => hb.block k hk

theorem MarkedC.stays {lo hi : Nat} {w w' : World} {b : Nat} {Bs : Nat → Nat} {l : List Ch} {k n : Nat} (h : MarkedC lo hi w b Bs l k n) (hb : Below w.heap.size w w') : MarkedC lo hi w' b Bs l k n := by
  obtain ⟨f, h1, h2⟩ := h
  refine ⟨f, h1.of_block (hb.block _ h1.lt), fun i hi' => ?_⟩
  obtain ⟨g1, g, g2, g3⟩ := h2 i hi'
  exact ⟨g1, g, g2.of_block (hb.block _ g2.lt), g3⟩
def MarkedT (w : World) (v : Value) (l : List Ch) : Prop := (v = .slice none 0 0 ∧ l = []) ∨ ∃ lo hi b Bs cap, v = .slice (some ⟨b, 0, none⟩) l.length cap ∧ MarkedC lo hi w b Bs l 1 l.length
theorem MarkedT.stays {w w' : World} {v : Value} {l : List Ch} (h : MarkedT w v l) (hb : Below w.heap.size w w') : MarkedT w' v l := by
  rcases h with h | ⟨lo, hi, b, Bs, cap, h, hm⟩
  · exact .inl h
  · exact .inr ⟨lo, hi, b, Bs, cap, h, hm.stays hb⟩

theorem markT_any (v : Value) (l : List Ch) (w : World) {lo hi : Nat} (h : OwnT lo hi w v l) (hn : Small l) (hhi : hi ≤ w.heap.size) :
    Calls Try.prog 20 #[.agg #[v], .int .i64 1] w fun e w' => e = .returned (.int .i64 ((1 + mk l l.length : Nat) : Int)) ∧ (∀ x, ¬ (lo ≤ x ∧ x < hi) → x < w.heap.size → w'.heap[x]? = w.heap[x]?) ∧ w'.os = w.os ∧ w'.tape = w.tape ∧ w'.output = w.output ∧ w.heap.size ≤ w'.heap.size ∧ MarkedT w' v l := by
  rcases h with ⟨rfl, rfl⟩ | ⟨b, Bs, cap, rfl, ho⟩
  · refine (markStore_nil 1 w).mono ?_
    rintro e w' ⟨rfl, hb⟩
    exact ⟨rfl, fun x _ hx => hb.block x hx, hb.os, hb.tape, hb.output, hb.size, .inl ⟨rfl, rfl⟩⟩
  · refine (markStore_any b Bs l cap 1 w ho hn (by omega) hhi).mono ?_
    rintro e w' ⟨rfl, h1, h2, h3, h4, h5, h6⟩
    exact ⟨rfl, h1, h2, h3, h4, h5, .inr ⟨_, _, b, Bs, cap, rfl, h6⟩⟩
theorem heldT_any (v : Value) (l : List Ch) (w : World) (h : MarkedT w v l) (hn : Small l) :
    Calls Try.prog 22 #[.agg #[v], .int .i64 1] w fun e w' => e = .returned (.int .i64 ((1 + mk l l.length : Nat) : Int)) ∧ Below w.heap.size w w' := by
  rcases h with ⟨rfl, rfl⟩ | ⟨lo, hi, b, Bs, cap, rfl, hm⟩
  · exact heldStore_nil 1 w
  · exact heldStore_any b Bs l cap 1 w (fun o => hm.stays (below_alloc w o)) hn (by omega)

/-- The boxes of the argument, of the two answers and of the copy. -/
def PBox (w : World) (va : Value) (b3 : Nat) (vw : Value) (b4 : Nat) (vx : Value) (b5 : Nat) (vg : Value) (x : World) : Prop := Below w.heap.size w x ∧ x.cell? ⟨w.heap.size, 0, none⟩ = some va ∧ x.cell? ⟨b3, 0, none⟩ = some vw ∧ x.cell? ⟨b4, 0, none⟩ = some vx ∧ x.cell? ⟨b5, 0, none⟩ = some vg
theorem PBox.kept {w x y : World} {va vw vx vg : Value} {b3 b4 b5 : Nat} (h : PBox w va b3 vw b4 vx b5 vg x) (hb : Below x.heap.size x y) : PBox w va b3 vw b4 vx b5 vg y :=
  ⟨h.1.trans (hb.mono h.1.size), cell_stays hb h.2.1, cell_stays hb h.2.2.1, cell_stays hb h.2.2.2.1, cell_stays hb h.2.2.2.2⟩

theorem PBox.mark {w x y : World} {va vw vx vg : Value} {b3 b4 b5 : Nat} (h : PBox w va b3 vw b4 vx b5 vg x) {lo hi : Nat} (hk : ∀ k, ¬ (lo ≤ k ∧ k < hi) → k < x.heap.size → y.heap[k]? = x.heap[k]?) (h1 : y.os = x.os) (h2 : y.tape = x.tape) (h3 : y.output = x.output) (h4 : x.heap.size ≤ y.heap.size)
    (n1 : w.heap.size < lo) (n3 : ¬ (lo ≤ b3 ∧ b3 < hi)) (n4 : ¬ (lo ≤ b4 ∧ b4 < hi)) (n5 : ¬ (lo ≤ b5 ∧ b5 < hi)) : PBox w va b3 vw b4 vx b5 vg y := by
  have hz := h.1.size
  exact ⟨h.1.trans ⟨h1, h2, h3, h4, fun k hk' => hk k (by omega) (by omega)⟩, cell_same (hk w.heap.size (by omega) (cell_lt h.2.1)) h.2.1, cell_same (hk _ n3 (cell_lt h.2.2.1)) h.2.2.1, cell_same (hk _ n4 (cell_lt h.2.2.2.1)) h.2.2.2.1, cell_same (hk _ n5 (cell_lt h.2.2.2.2)) h.2.2.2.2⟩

set_option maxHeartbeats 4000000 in
theorem exactPrune_any (v : Value) (l : List Ch) (h : Int) (w : World) {lo hi : Nat} (hl : ChainsAt lo hi w v l) (hw : WfCh l) :
    Calls Try.prog 5 #[.agg #[v], .int .i64 h] w fun e w' => e = .returned (.bool true) ∧ Below w.heap.size w w' := by
  obtain ⟨a, cap, hv⟩ : ∃ a cap, v = .slice a l.length cap := by obtain ⟨a, cap, h1, _⟩ := hl; exact ⟨a, cap, h1⟩
  subst hv
  have b0 : Below w.heap.size w (w.alloc (Obj.cells #[Value.slice a l.length cap] 24)) := (Below.refl _ _).alloc (Nat.le_refl _) _
  have p0 : (w.alloc (Obj.cells #[Value.slice a l.length cap] 24)).cell? ⟨w.heap.size, 0, none⟩ = some (.slice a l.length cap) := by simp [go_sem]
  go_enter Try.func5, Try.ntmps5
  go_wp2_with fail
  refine (szStore_any _ l _ (hl.stays b0) _ (by omega) (by omega)).mono ?_
  rintro e w1 ⟨q, rfl, hq1, hq2, hb1⟩
  have b1 := b0.trans (hb1.mono b0.size)
  have p1 := cell_stays hb1 p0
  clear b0 p0 hb1
  by_cases hneg : q < 0
  · go_wp2
    go_ret
    exact ⟨rfl, b1⟩
  have hs := hq2 (by omega)
  have hn := hs.1
  clear hq2
  go_wp2_with fail
  refine (toStore_any _ l _ (hl.stays b1) hs).mono ?_
  rintro e w2 ⟨a2, c2, rfl, hv2, hb2⟩
  have b2 := b1.trans (hb2.mono b1.size)
  have p2 := cell_stays hb2 p1
  clear b1 p1 hb2
  go_wp2_with fail
  refine (specPrune_own _ l h _ hv2 hs).mono ?_
  rintro e w3 ⟨v3, out, rfl, hans, hr3, hb3⟩
  obtain ⟨a3, n3, c3, rfl⟩ := hr3.form
  have b3 := b2.trans (hb3.mono b2.size)
  have p3 := cell_stays hb3 p2
  have ho := hans.small hs
  have hws : w.heap.size < w3.heap.size := cell_lt p3
  clear b2 p2 hb3 hv2
  have bA := below_alloc w3 (Obj.cells #[Value.slice a3 n3 c3] 31)
  go_wp2_with fail
  refine (toStore_own _ l _ (hl.stays (b3.trans (bA.mono b3.size))) hs).mono ?_
  rintro e w4 ⟨b4, Bs, rfl, ho4, hb4⟩
  have pw4 : w4.cell? ⟨w3.heap.size, 0, none⟩ = some (.slice a3 n3 c3) := cell_stays hb4 (by simp [go_sem])
  have p4 := cell_stays hb4 (cell_stays bA p3)
  have b4' := (b3.trans (bA.mono b3.size)).trans (hb4.mono (b3.trans (bA.mono b3.size)).size)
  have hr4 := ((hr3.chains ho).stays bA).stays hb4
  clear bA b3 p3 hr3
  have bB := below_alloc w4 (Obj.cells #[Value.slice (some ⟨b4, 0, none⟩) l.length l.length] 31)
  go_wp2_with fail
  refine (implPrune_own b4 l.length Bs l h _ (ho4.stays bB) hw hs).mono ?_
  rintro e w5 ⟨v5, out', rfl, hans', hr5, hb5⟩
  obtain rfl := hans.one hans'
  obtain ⟨a5, n5, c5, rfl⟩ := hr5.form
  have bC := below_alloc w5 (Obj.cells #[Value.slice a5 n5 c5] 31)
  have bB5 := bB.trans (hb5.mono bB.size)
  have b45 := bB5.trans (bC.mono bB5.size)
  have S5 : PBox w (.slice a l.length cap) w3.heap.size (.slice a3 n3 c3) w4.heap.size (.slice (some ⟨b4, 0, none⟩) l.length l.length) w5.heap.size (.slice a5 n5 c5) (w5.alloc (Obj.cells #[Value.slice a5 n5 c5] 31)) :=
    ⟨b4'.trans (b45.mono b4'.size), cell_stays b45 p4, cell_stays b45 pw4, cell_stays bC (cell_stays hb5 (by simp [go_sem])), by simp [go_sem]⟩
  have ho5 := ho4.stays b45
  have hw5 := hr4.stays b45
  have hg5 : OwnT _ w5.heap.size _ _ out := (show OwnT _ w5.heap.size w5 _ out from hr5).stays bC
  simp only [World.size_alloc] at hg5 ho5
  have z34 : w3.heap.size < w4.heap.size := cell_lt pw4
  have z45 : w4.heap.size < w5.heap.size := cell_lt (cell_stays hb5 (show (w4.alloc (Obj.cells #[Value.slice (some ⟨b4, 0, none⟩) l.length l.length] 31)).cell? ⟨w4.heap.size, 0, none⟩ = _ by simp [go_sem]; rfl))
  obtain ⟨_, pa, pw, px, pg⟩ := S5
  have S5 : PBox w (.slice a l.length cap) w3.heap.size (.slice a3 n3 c3) w4.heap.size (.slice (some ⟨b4, 0, none⟩) l.length l.length) w5.heap.size (.slice a5 n5 c5) (w5.alloc (Obj.cells #[Value.slice a5 n5 c5] 31)) := ⟨by assumption, pa, pw, px, pg⟩
  clear bB bC bB5 b45 hr5 hr4 ho4 pw4 p4 b4' hb4 hb5 hans'
  go_wp2_with fail
  refine (eqStore_same _ _ out _ (hg5.chains ho) hw5).mono ?_
  rintro e w6 ⟨rfl, hb6⟩
  have S6 := S5.kept hb6
  have ho6 := ho5.stays hb6
  have hw6 := hw5.stays hb6
  have hg6 := hg5.stays hb6
  clear S5 ho5 hw5 hg5 pa pw px pg
  obtain ⟨_, pa, pw, px, pg⟩ := id S6
  go_wp2_with fail
  go_region_held3 (fun x => Below w.heap.size w x ∧ x.cell? ⟨w.heap.size, 0, none⟩ = some (.slice a l.length cap) ∧ x.cell? ⟨w3.heap.size, 0, none⟩ = some (.slice a3 n3 c3) ∧ x.cell? ⟨w4.heap.size, 0, none⟩ = some (.slice (some ⟨b4, 0, none⟩) l.length l.length) ∧ x.cell? ⟨w5.heap.size, 0, none⟩ = some (.slice a5 n5 c5))
    (first | assumption | exact S8 | exact S7 | exact S6.kept (Below.refl _ _).drew)
    (first | (go_at_call 11; refine (toStore_any _ l _ (hl.stays S6.1.drew) hs).mono ?_; rintro e w7 ⟨a7, c7, rfl, hv7, hb7⟩; have S7 := (S6.kept (Below.refl _ _).drew).kept hb7; have t67 := (Below.refl w6.heap.size w6).drew.trans hb7) | (go_at_call 14; refine (eqStore_same _ _ l _ ((ho6.stays t67).chains hs) hv7).mono ?_; rintro e w8 ⟨rfl, hb8⟩; have S8 := S7.kept hb8; have t68 := t67.trans (hb8.mono t67.size)))
  have ho8 := ho6.stays t68
  have hw8 := hw6.stays t68
  have hg8 := hg6.stays t68
  have z58 : w5.heap.size < w8.heap.size := cell_lt S8.2.2.2.2
  clear S6 S7 ho6 hw6 hg6 hv7 t67 hb7 hb8 t68 pa pw px pg
  obtain ⟨_, pa, pw, px, pg⟩ := id S8
  go_wp2_with fail
  refine (markStore_any b4 Bs l l.length 1 _ ho8 hs (by omega) (by omega)).mono ?_
  rintro e w9 ⟨rfl, hk9, h91, h92, h93, hz9, _⟩
  have S9 := S8.mark hk9 h91 h92 h93 hz9 (by omega) (by omega) (by omega) (by omega)
  have hw9 := hw8.keep fun b h1 h2 h3 => hk9 b (by omega) h3
  have hg9 := hg8.keep fun b h1 h2 h3 => hk9 b (by omega) h3
  have hmb := mk_bound hs (Nat.le_refl _)
  clear S8 ho8 hw8 hg8 pa pw px pg hk9 h91 h92 h93
  obtain ⟨_, pa, pw, px, pg⟩ := id S9
  go_wp2_with fail
  refine (eqStore_same _ _ out _ (hg9.chains ho) hw9).mono ?_
  rintro e w10 ⟨rfl, hb10⟩
  have S10 := S9.kept hb10
  have hw10 := hw9.stays hb10
  have hg10 := hg9.stays hb10
  have z510 : w5.heap.size < w10.heap.size := cell_lt S10.2.2.2.2
  clear S9 hw9 hg9 hb10 pa pw px pg
  obtain ⟨_, pa, pw, px, pg⟩ := id S10
  go_wp2_with fail
  refine (markT_any _ out _ hg10 ho (by omega)).mono ?_
  rintro e w11 ⟨rfl, hk11, h111, h112, h113, hz11, hm11⟩
  have S11 := S10.mark hk11 h111 h112 h113 hz11 (by omega) (by omega) (by omega) (by omega)
  have hw11 := hw10.keep fun b h1 h2 h3 => hk11 b (by omega) h3
  have hmo := mk_bound ho (Nat.le_refl _)
  clear S10 hw10 hg10 pa pw px pg hk11 h111 h112 h113
  obtain ⟨_, pa, pw, px, pg⟩ := id S11
  go_wp2_with fail
  refine (heldT_any _ out _ hm11 ho).mono ?_
  rintro e w12 ⟨rfl, hb12⟩
  have S12 := S11.kept hb12
  have hw12 := hw11.stays hb12
  have hm12 := hm11.stays hb12
  clear S11 hw11 hm11 hb12 pa pw px pg
  obtain ⟨_, pa, pw, px, pg⟩ := id S12
  go_wp2_with fail
  refine (toStore_own _ l _ (hl.stays S12.1) hs).mono ?_
  rintro e w13 ⟨b13, Bs13, rfl, ho13, hb13⟩
  have S13 := S12.kept hb13
  have hw13 := hw12.stays hb13
  have hm13 := hm12.stays hb13
  clear S12 hw12 hm12 hb13 pa pw px pg
  obtain ⟨_, pa, pw, px, pg⟩ := id S13
  go_wp2_with fail
  refine (implPrune_own b13 l.length Bs13 l h _ ho13 hw hs).mono ?_
  rintro e w14 ⟨v14, out2, rfl, hans2, hr14, hb14⟩
  obtain rfl := hans.one hans2
  obtain ⟨a14, n14, c14, rfl⟩ := hr14.form
  have bD := below_alloc w14 (Obj.cells #[Value.slice a14 n14 c14] 31)
  have b14 := hb14.trans (bD.mono hb14.size)
  have S14 := S13.kept b14
  have hw14 := hw13.stays b14
  have hm14 := hm13.stays b14
  have hg14 := (hr14.chains ho).stays bD
  clear S13 hw13 hm13 hb14 pa pw px pg hr14 bD b14 ho13
  obtain ⟨_, pa, pw, px, pg⟩ := id S14
  go_wp2_with fail
  refine (eqStore_same _ _ out _ hg14 hw14).mono ?_
  rintro e w15 ⟨rfl, hb15⟩
  have S15 := S14.kept hb15
  have hm15 := hm14.stays hb15
  clear S14 hw14 hm14 hg14 hb15 pa pw px pg
  obtain ⟨_, pa, pw, px, pg⟩ := id S15
  go_wp2_with fail
  refine (heldT_any _ out _ hm15 ho).mono ?_
  rintro e w16 ⟨rfl, hb16⟩
  have S16 := S15.kept hb16
  clear S15 hm15 pa pw px pg hb16
  go_wp2
  go_ret
  exact ⟨rfl, S16.1⟩

/-! ### The row -/

theorem own : ownKnob Try.prog.godebug = none := by kernel_rfl
theorem laidOut : laidOutB Try.prog = true := by kernel_rfl

theorem liftedPrune (os : Os) (started : os.Started) (H : Type) (enc : TypeId × Value → H) :
    ReturnsInHanded {} Try.checked os 5 .any (Rows.fnExactPruneSpec.pre6 enc Try.prog Try.f5 Rows.fnExactPruneRow.domain false) (Rows.fnExactPruneSpec.post enc Try.prog Try.f5 false true false false) := by
  refine returnsInHanded_of_change (C := Try.checked) own started (by kernel_rfl) Try.func5
    (ChangeSpec.witness6 (enc := enc) (C := Try.checked) false ⟨#[], #[.agg #[.slice none 0 0], .int .i64 0], []⟩ 8 (by kernel_rfl) (by kernel_rfl) (by kernel_rfl) (by kernel_rfl)) ?_
  intro W base args ds gs before hval0 hW hcnd _
  have hval : ∀ (j : Nat) t v, Try.f5.params[j]? = some t → args[j]? = some v → Value.okWide Try.prog W .any base t v := hval0
  have hW' := hW
  obtain ⟨p, q, hA0, hV, rfl, hfz, hnd⟩ := hW
  have hA : DataW.TrodAll enc Try.prog W 0 (fun _ => true) true Try.f5.params.toList args.toList ds p := hA0
  rw [Try.params5] at hA hval
  obtain ⟨v0, vs0, d0, ds0, p0, q0, hargs, rfl, rfl, h0, r0⟩ := trodAll_cons hA
  obtain ⟨v1, vs1, d1, ds1, p1, q1, rfl, rfl, rfl, h1, r1⟩ := trodAll_cons r0
  obtain ⟨rfl, rfl, rfl⟩ := trodAll_nil r1
  obtain rfl : args = #[v0, v1] := by cases args; simp_all
  obtain ⟨rfl, rfl⟩ := trodVars_none hV
  have k0 := h0
  have lt0 : ∀ x ∈ p0, x.block < W.heap.size := by obtain ⟨m, hm⟩ := k0; exact DataW.trod_lt m _ _ _ hm
  obtain ⟨v, l, rfl, hl, hw⟩ := open_store (hval 0 24 v0 rfl rfl) h0
  obtain ⟨hr, rfl, rfl, rfl, wh⟩ := open_int Try.underlying3 (hval 1 3 v1 rfl rfl) h1
  clear hA0 hval0
  refine (exactPrune_any v l hr W hl hw).mono fun e W' ⟨he, bel⟩ => ?_
  subst he
  exact ⟨_, rfl, _, _, _, [], _, [], hW', trodAll_mk1 (shut_bool Try.underlying4 _), trodAll_cons_mk (Below.trod laidOut (by kernel_rfl) (of_decide_eq_true (by kernel_rfl)) k0 bel lt0) (trodAll_cons_mk (shut_int Try.underlying3 wh) trodAll_mk0), rfl, bel.frame _, fun h => by cases h⟩

theorem exactPrune_holds : Rows.FnExactPruneSaid :=
  OpenClaim.holds_of_wide 5 Try.f5 rfl rfl rfl rfl rfl rfl rfl ⟨rfl, rfl, rfl, rfl, rfl⟩ rfl rfl rfl rfl rfl (by kernel_rfl) Try.func5 (by kernel_rfl)
    (of_decide_eq_true (by kernel_rfl)) (by unfold Func.isWrapper; first | (rw [if_pos (by decide +kernel)]; kernel_rfl) | (rw [if_neg (by decide +kernel)]; exact ⟨rfl, rfl⟩))
    (fun os started H enc _ => liftedPrune os started H enc)

#print axioms exactPrune_holds
end Go.Proofs.Ytgohdlgnmlekdaj
