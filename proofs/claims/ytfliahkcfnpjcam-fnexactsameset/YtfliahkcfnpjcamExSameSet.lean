/- For every two sets, the exact law of SameSet returns true and both sets read afterwards as they read before. -/
import Derived.Test.YtfliahkcfnpjcamTSame2
import Derived.Test.YtfliahkcfnpjcamTSame3
import Derived.Test.YtfliahkcfnpjcamTEq
import Derived.Test.YtfliahkcfnpjcamTOpen
import Derived.ChangeOld
namespace Go.Proofs.Ytfliahkcfnpjcam
open Go.ChangeShapes Go.WideShapes Go.ChangeAt Go.RowKit
set_option linter.unusedVariables false
set_option maxRecDepth 100000
attribute [local go_sem ↓] Go.wp_at_zero Go.wp_at_succ

theorem tells_same {p : Prop} {q r : Bool} (h : q = true ↔ p) (h' : r = true ↔ p) : q = r := by
  cases q <;> cases r <;> simp_all

/-- The boxes of the two arguments. -/
def BoxT (w : World) (v u v' u' : Value) (x : World) : Prop := Below w.heap.size w x ∧ x.cell? ⟨w.heap.size, 0, none⟩ = some v ∧ x.cell? ⟨w.heap.size, 1, none⟩ = some u ∧ x.cell? ⟨w.heap.size + 1, 0, none⟩ = some v' ∧ x.cell? ⟨w.heap.size + 1, 1, none⟩ = some u'
theorem BoxT.kept {w : World} {v u v' u' : Value} {x y : World} (h : BoxT w v u v' u' x) (hb : Below x.heap.size x y) : BoxT w v u v' u' y :=
  ⟨h.1.trans (hb.mono h.1.size), cell_stays hb h.2.1, cell_stays hb h.2.2.1, cell_stays hb h.2.2.2.1, cell_stays hb h.2.2.2.2⟩

set_option maxHeartbeats 4000000 in
theorem exactSameSet_any (v u v' u' : Value) (l l' : List Nd) (p p' : List Pr) (w : World) {lo hi lo' hi' : Nat} (h : SetAt lo hi w v u l p) (h' : SetAt lo' hi' w v' u' l' p') (hw : WfN l) (hp : WfP p) (hw' : WfN l') (hp' : WfP p') :
    Calls Try.prog 3 #[.agg #[v, u], .agg #[v', u']] w fun e w' => e = .returned (.bool true) ∧ Below w.heap.size w w' := by
  obtain ⟨a, c, b, d, rfl, rfl⟩ := h.forms
  obtain ⟨a', c', b', d', rfl, rfl⟩ := h'.forms
  have S0 : BoxT w (Value.slice a l.length c) (Value.slice b p.length d) (Value.slice a' l'.length c') (Value.slice b' p'.length d') ((w.alloc (Obj.cells #[Value.slice a l.length c, Value.slice b p.length d] 25)).alloc (Obj.cells #[Value.slice a' l'.length c', Value.slice b' p'.length d'] 25)) := ⟨((Below.refl _ _).alloc (Nat.le_refl _) _).alloc (by simp) _, by simp [go_sem], by simp [go_sem], by simp [go_sem], by simp [go_sem]⟩
  go_enter Try.func3, Try.ntmps3
  go_wp2_with fail
  generalize (w.alloc (Obj.cells #[Value.slice a l.length c, Value.slice b p.length d] 25)).alloc (Obj.cells #[Value.slice a' l'.length c', Value.slice b' p'.length d'] 25) = w0 at *
  refine (szSet_any _ _ l p _ (h.stays S0.1) hw hp _ (by omega) (by omega)).mono ?_
  rintro e w1 ⟨q, rfl, hq1, hq2, hb1⟩
  have S1 := S0.kept hb1
  clear S0 hb1
  have k1 := S1.2.1
  have k2 := S1.2.2.1
  have k3 := S1.2.2.2.1
  have k4 := S1.2.2.2.2
  by_cases hneg : q < 0
  · go_wp2
    go_ret
    exact ⟨rfl, S1.1⟩
  have hs := hq2 (by omega)
  clear hq2
  go_wp2_with fail
  clear k1 k2 k3 k4
  refine (szSet_any _ _ l' p' _ (h'.stays S1.1) hw' hp' _ (by omega) (by omega)).mono ?_
  rintro e w2 ⟨q2, rfl, hq3, hq4, hb2⟩
  have S2 := S1.kept hb2
  clear S1 hb2
  by_cases hneg2 : q2 < 0
  · go_wp2
    go_ret
    exact ⟨rfl, S2.1⟩
  have hs' := hq4 (by omega)
  clear hq4 hw hp hw' hp'
  have n1 := hs.1.1
  have n2 := hs.2.1
  have n3 := hs'.1.1
  have n4 := hs'.2.1
  clear hs hs'
  change Hid _ at n1
  change Hid _ at n2
  change Hid _ at n3
  change Hid _ at n4
  have S3 := S2.kept (Below.refl _ _).drew
  go_wp2_with fail
  refine region_last (fun x => Below w.heap.size w x ∧ x.cell? ⟨w.heap.size, 0, none⟩ = some (.slice a l.length c) ∧ x.cell? ⟨w.heap.size, 1, none⟩ = some (.slice b p.length d) ∧ x.cell? ⟨w.heap.size + 1, 0, none⟩ = some (.slice a' l'.length c') ∧ x.cell? ⟨w.heap.size + 1, 1, none⟩ = some (.slice b' p'.length d')) (by kernel_rfl) (by kernel_rfl) (by kernel_rfl) S3 (fun hHeld => ?_)
  simp only [List.dropLast, List.length_cons, List.length_nil, Nat.reduceAdd]
  refine takeL (i := 0) (v := ?_) rfl (by kernel_rfl) (by kernel_rfl) (by kernel_rfl) (fun _ _ _ h => h) rfl (by assumption) ?_ ?_
  rotate_left
  · (intro wS hSw; (try dsimp only at hSw); go_simp; try with_reducible rfl)
  (try simp only [Act.put, List.setIfInBounds_toArray, List.set_cons_zero, List.set_cons_succ])
  refine takeL (i := 2) (v := ?_) rfl (by kernel_rfl) (by kernel_rfl) (by kernel_rfl) (fun _ _ _ h => h) rfl (by assumption) ?_ ?_
  rotate_left
  · (intro wS hSw; (try dsimp only at hSw); go_simp; try with_reducible rfl)
  (try simp only [Act.put, List.setIfInBounds_toArray, List.set_cons_zero, List.set_cons_succ])
  refine stepL (i := 1) rfl (by kernel_rfl) (fun K hK => ?_)
  rw [if_pos (by rfl)]
  go_simp
  refine (toSet_any _ _ l p _ (h.stays S3.1) n1.out n2.out).mono ?_
  rintro e wA ⟨aA, cA, bA, dA, rfl, hvA, hbA⟩
  have SA := S3.kept hbA
  refine hK.out _ _ SA (fun hHeld2 => ?_)
  clear hK K hHeld
  (try simp only [Act.put, List.setIfInBounds_toArray, List.set_cons_zero, List.set_cons_succ])
  refine stepL (i := 3) rfl (by kernel_rfl) (fun K hK => ?_)
  rw [if_pos (by rfl)]
  go_simp
  refine (toSet_any _ _ l' p' _ (h'.stays SA.1) n3.out n4.out).mono ?_
  rintro e wB ⟨aB, cB, bB, dB, rfl, hvB, hbB⟩
  have SB := SA.kept hbB
  refine hK.out _ _ SB (fun hHeld4 => ?_)
  clear hK K hHeld2
  (try simp only [Act.put, List.setIfInBounds_toArray, List.set_cons_zero, List.set_cons_succ])
  have HA := hvA.stays hbB
  have HB := hvB
  have SZ := SB
  clear SA SB hvA hvB hbA hbB
  refine stepL (i := 4) rfl (by kernel_rfl) (fun K hK => ?_)
  rw [if_pos (by rfl)]
  go_simp
  refine (specSameSet_any _ _ _ _ l l' p p' _ HA HB).mono ?_
  rintro e w4 ⟨⟨q5, rfl, hq5⟩, hb4⟩
  have HQ : Hid (q5 = true ↔ l = l' ∧ p = p') := hq5
  have S4 := SZ.kept hb4
  refine hK.out _ _ S4 (fun hHeld3 => ?_)
  clear hK K hHeld4 hq5 HA HB
  (try simp only [Act.put, List.setIfInBounds_toArray, List.set_cons_zero, List.set_cons_succ])
  refine wpAnyH_done (by kernel_rfl) ?_ _
  refine lastL (n := 5) rfl rfl ?_
  go_simp
  clear hHeld3 SZ S3 hb4
  obtain ⟨B4, x1, x2, x3, x4⟩ := id S4
  go_wp2_with fail
  clear x1 x2 x3 x4
  refine (toSet_any _ _ l p _ (h.stays B4) n1.out n2.out).mono ?_
  rintro e w5 ⟨a5, c5, b5, d5, rfl, hv5, hb5⟩
  have S5 := S4.kept hb5
  clear S4 hb5 B4
  have hb6 : Below w5.heap.size w5 (w5.alloc (Obj.cells #[Value.slice a5 l.length c5, Value.slice b5 p.length d5] 31)) := (Below.refl _ _).alloc (Nat.le_refl _) _
  have S6 := S5.kept hb6
  have hv6 := hv5.stays hb6
  have y1 : (w5.alloc (Obj.cells #[Value.slice a5 l.length c5, Value.slice b5 p.length d5] 31)).cell? ⟨w5.heap.size, 0, none⟩ = some (Value.slice a5 l.length c5) := by simp [go_sem]
  have y2 : (w5.alloc (Obj.cells #[Value.slice a5 l.length c5, Value.slice b5 p.length d5] 31)).cell? ⟨w5.heap.size, 1, none⟩ = some (Value.slice b5 p.length d5) := by simp [go_sem]
  clear S5 hv5 hb6
  obtain ⟨B6, x1, x2, x3, x4⟩ := id S6
  go_wp2_with fail
  generalize w5.alloc (Obj.cells #[Value.slice a5 l.length c5, Value.slice b5 p.length d5] 31) = w6 at *
  clear x1 x2 x3 x4
  refine (toSet_any _ _ l' p' _ (h'.stays B6) n3.out n4.out).mono ?_
  rintro e w7 ⟨a7, c7, b7, d7, rfl, hv7, hb7⟩
  have S7 := S6.kept hb7
  have hv6' := hv6.stays hb7
  have y1' := cell_stays hb7 y1
  have y2' := cell_stays hb7 y2
  clear S6 hb7 B6 hv6 y1 y2
  have hb8 : Below w7.heap.size w7 (w7.alloc (Obj.cells #[Value.slice a7 l'.length c7, Value.slice b7 p'.length d7] 31)) := (Below.refl _ _).alloc (Nat.le_refl _) _
  have S8 := S7.kept hb8
  have hv8 := hv7.stays hb8
  have hu8 := hv6'.stays hb8
  have y1 := cell_stays hb8 y1'
  have y2 := cell_stays hb8 y2'
  have y3 : (w7.alloc (Obj.cells #[Value.slice a7 l'.length c7, Value.slice b7 p'.length d7] 31)).cell? ⟨w7.heap.size, 0, none⟩ = some (Value.slice a7 l'.length c7) := by simp [go_sem]
  have y4 : (w7.alloc (Obj.cells #[Value.slice a7 l'.length c7, Value.slice b7 p'.length d7] 31)).cell? ⟨w7.heap.size, 1, none⟩ = some (Value.slice b7 p'.length d7) := by simp [go_sem]
  clear S7 hv7 hv6' hb8 y1' y2'
  go_wp2_with fail
  generalize w7.alloc (Obj.cells #[Value.slice a7 l'.length c7, Value.slice b7 p'.length d7] 31) = w8 at *
  refine (implSameSet_any _ _ _ _ l l' p p' _ hu8 hv8).mono ?_
  rintro e w9 ⟨⟨q9, rfl, hq9⟩, hb9⟩
  obtain rfl := tells_same hq9 HQ.out
  have S9 := S8.kept hb9
  have hv9 := hv8.stays hb9
  have hu9 := hu8.stays hb9
  have y1' := cell_stays hb9 y1
  have y2' := cell_stays hb9 y2
  have y3' := cell_stays hb9 y3
  have y4' := cell_stays hb9 y4
  clear S8 hv8 hu8 hb9 y1 y2 y3 y4 hq9
  have TA : ∀ x, Below w9.heap.size w9 x → Below w.heap.size w x ∧ x.cell? ⟨w.heap.size, 0, none⟩ = some (.slice a l.length c) ∧ x.cell? ⟨w.heap.size, 1, none⟩ = some (.slice b p.length d) ∧ x.cell? ⟨w5.heap.size, 0, none⟩ = some (.slice a5 l.length c5) ∧ x.cell? ⟨w5.heap.size, 1, none⟩ = some (.slice b5 p.length d5) := fun x hx => ⟨(S9.kept hx).1, (S9.kept hx).2.1, (S9.kept hx).2.2.1, cell_stays hx y1', cell_stays hx y2'⟩
  go_wp2_with fail
  refine region_last (fun x => Below w.heap.size w x ∧ x.cell? ⟨w.heap.size, 0, none⟩ = some (.slice a l.length c) ∧ x.cell? ⟨w.heap.size, 1, none⟩ = some (.slice b p.length d) ∧ x.cell? ⟨w5.heap.size, 0, none⟩ = some (.slice a5 l.length c5) ∧ x.cell? ⟨w5.heap.size, 1, none⟩ = some (.slice b5 p.length d5)) (by kernel_rfl) (by kernel_rfl) (by kernel_rfl) (TA _ (Below.refl _ _).drew) (fun hHeld => ?_)
  simp only [List.dropLast, List.length_cons, List.length_nil, Nat.reduceAdd]
  refine takeL (i := 0) (v := ?_) rfl (by kernel_rfl) (by kernel_rfl) (by kernel_rfl) (fun _ _ _ h => h) rfl (by assumption) ?_ ?_
  rotate_left
  · (intro wS hSw; (try dsimp only at hSw); go_simp; try with_reducible rfl)
  (try simp only [Act.put, List.setIfInBounds_toArray, List.set_cons_zero, List.set_cons_succ])
  refine takeL (i := 1) (v := ?_) rfl (by kernel_rfl) (by kernel_rfl) (by kernel_rfl) (fun _ _ _ h => h) rfl (by assumption) ?_ ?_
  rotate_left
  · (intro wS hSw; (try dsimp only at hSw); go_simp; try with_reducible rfl)
  (try simp only [Act.put, List.setIfInBounds_toArray, List.set_cons_zero, List.set_cons_succ])
  refine stepL (i := 2) rfl (by kernel_rfl) (fun K hK => ?_)
  rw [if_pos (by rfl)]
  go_simp
  refine (toSet_any _ _ l p _ (h.stays (TA _ (Below.refl _ _).drew).1) n1.out n2.out).mono ?_
  rintro e wA ⟨aA, cA, bA, dA, rfl, hvA, hbA⟩
  have bA9 : Below w9.heap.size w9 wA := (Below.refl _ _).drew.trans hbA
  refine hK.out _ _ (TA _ bA9) (fun hHeld2 => ?_)
  clear hK K hHeld
  (try simp only [Act.put, List.setIfInBounds_toArray, List.set_cons_zero, List.set_cons_succ])
  refine stepL (i := 3) rfl (by kernel_rfl) (fun K hK => ?_)
  rw [if_pos (by rfl)]
  go_simp
  refine (eqSet_same _ _ _ _ l p _ (hu9.stays bA9) hvA).mono ?_
  rintro e wB ⟨rfl, hbB⟩
  have bB9 : Below w9.heap.size w9 wB := bA9.trans (hbB.mono bA9.size)
  refine hK.out _ _ (TA _ bB9) (fun hHeld3 => ?_)
  clear hK K hHeld2
  (try simp only [Act.put, List.setIfInBounds_toArray, List.set_cons_zero, List.set_cons_succ])
  refine wpAnyH_done (by kernel_rfl) ?_ _
  refine lastL (n := 4) rfl rfl ?_
  go_simp
  clear hHeld3 TA hvA hbA bA9
  have S10 := S9.kept bB9
  have hv10 := hv9.stays bB9
  have y3 := cell_stays bB9 y3'
  have y4 := cell_stays bB9 y4'
  clear S9 hv9 hu9 y1' y2' y3' y4' bB9 hbB
  have TB : ∀ x, Below wB.heap.size wB x → Below w.heap.size w x ∧ x.cell? ⟨w.heap.size + 1, 0, none⟩ = some (.slice a' l'.length c') ∧ x.cell? ⟨w.heap.size + 1, 1, none⟩ = some (.slice b' p'.length d') ∧ x.cell? ⟨w7.heap.size, 0, none⟩ = some (.slice a7 l'.length c7) ∧ x.cell? ⟨w7.heap.size, 1, none⟩ = some (.slice b7 p'.length d7) := fun x hx => ⟨(S10.kept hx).1, (S10.kept hx).2.2.2.1, (S10.kept hx).2.2.2.2, cell_stays hx y3, cell_stays hx y4⟩
  clear y3 y4
  go_wp2_with fail
  refine region_last (fun x => Below w.heap.size w x ∧ x.cell? ⟨w.heap.size + 1, 0, none⟩ = some (.slice a' l'.length c') ∧ x.cell? ⟨w.heap.size + 1, 1, none⟩ = some (.slice b' p'.length d') ∧ x.cell? ⟨w7.heap.size, 0, none⟩ = some (.slice a7 l'.length c7) ∧ x.cell? ⟨w7.heap.size, 1, none⟩ = some (.slice b7 p'.length d7)) (by kernel_rfl) (by kernel_rfl) (by kernel_rfl) (TB _ (Below.refl _ _).drew) (fun hHeld => ?_)
  simp only [List.dropLast, List.length_cons, List.length_nil, Nat.reduceAdd]
  refine takeL (i := 0) (v := ?_) rfl (by kernel_rfl) (by kernel_rfl) (by kernel_rfl) (fun _ _ _ h => h) rfl (by assumption) ?_ ?_
  rotate_left
  · (intro wS hSw; (try dsimp only at hSw); go_simp; try with_reducible rfl)
  (try simp only [Act.put, List.setIfInBounds_toArray, List.set_cons_zero, List.set_cons_succ])
  refine takeL (i := 1) (v := ?_) rfl (by kernel_rfl) (by kernel_rfl) (by kernel_rfl) (fun _ _ _ h => h) rfl (by assumption) ?_ ?_
  rotate_left
  · (intro wS hSw; (try dsimp only at hSw); go_simp; try with_reducible rfl)
  (try simp only [Act.put, List.setIfInBounds_toArray, List.set_cons_zero, List.set_cons_succ])
  refine stepL (i := 2) rfl (by kernel_rfl) (fun K hK => ?_)
  rw [if_pos (by rfl)]
  go_simp
  refine (toSet_any _ _ l' p' _ (h'.stays (TB _ (Below.refl _ _).drew).1) n3.out n4.out).mono ?_
  rintro e wC ⟨aC, cC, bC, dC, rfl, hvC, hbC⟩
  have bC9 : Below wB.heap.size wB wC := (Below.refl _ _).drew.trans hbC
  refine hK.out _ _ (TB _ bC9) (fun hHeld2 => ?_)
  clear hK K hHeld
  (try simp only [Act.put, List.setIfInBounds_toArray, List.set_cons_zero, List.set_cons_succ])
  refine stepL (i := 3) rfl (by kernel_rfl) (fun K hK => ?_)
  rw [if_pos (by rfl)]
  go_simp
  refine (eqSet_same _ _ _ _ l' p' _ (hv10.stays bC9) hvC).mono ?_
  rintro e wD ⟨rfl, hbD⟩
  have bD9 : Below wB.heap.size wB wD := bC9.trans (hbD.mono bC9.size)
  refine hK.out _ _ (TB _ bD9) (fun hHeld3 => ?_)
  clear hK K hHeld2
  (try simp only [Act.put, List.setIfInBounds_toArray, List.set_cons_zero, List.set_cons_succ])
  refine wpAnyH_done (by kernel_rfl) ?_ _
  refine lastL (n := 4) rfl rfl ?_
  go_simp
  clear hHeld3
  have B11 := (TB _ bD9).1
  clear TB S10 hv10
  go_wp2
  go_ret
  exact ⟨rfl, B11⟩

theorem ownSS : ownKnob Try.prog.godebug = none := by kernel_rfl
theorem laidOutSS : laidOutB Try.prog = true := by kernel_rfl

set_option maxRecDepth 100000 in
theorem liftedSameSet (os : Os) (started : os.Started) (H : Type) (enc : TypeId × Value → H) :
    ReturnsInHanded {} Try.checked os 3 .any (Rows.fnExactSameSetSpec.pre6 enc Try.prog Try.f3 Rows.fnExactSameSetRow.domain false) (Rows.fnExactSameSetSpec.post enc Try.prog Try.f3 false true false false) := by
  refine returnsInHanded_of_change (C := Try.checked) ownSS started (by kernel_rfl) Try.func3
    (ChangeSpec.witness6 (enc := enc) (C := Try.checked) false ⟨#[], #[.agg #[.slice none 0 0, .slice none 0 0], .agg #[.slice none 0 0, .slice none 0 0]], []⟩ 8 (by kernel_rfl) (by kernel_rfl) (by kernel_rfl) (by kernel_rfl)) ?_
  intro W base args ds gs before hval0 hW hcnd _
  have hval : ∀ (j : Nat) t v, Try.f3.params[j]? = some t → args[j]? = some v → Value.okWide Try.prog W .any base t v := hval0
  have hW' := hW
  obtain ⟨p, q, hA0, hV, rfl, hfz, hnd⟩ := hW
  have hA : DataW.TrodAll enc Try.prog W 0 (fun _ => true) true Try.f3.params.toList args.toList ds p := hA0
  rw [Try.params3] at hA hval
  obtain ⟨v0, vs0, d0, ds0, p0, q0, hargs, rfl, rfl, h0, r0⟩ := trodAll_cons hA
  obtain ⟨v1, vs1, d1, ds1, p1, q1, rfl, rfl, rfl, h1, r1⟩ := trodAll_cons r0
  obtain ⟨rfl, rfl, rfl⟩ := trodAll_nil r1
  obtain rfl : args = #[v0, v1] := by cases args; simp_all
  obtain ⟨rfl, rfl⟩ := trodVars_none hV
  have k0 := h0
  have lt0 : ∀ x ∈ p0, x.block < W.heap.size := by obtain ⟨m, hm⟩ := k0; exact DataW.trod_lt m _ _ _ hm
  have k1 := h1
  have lt1 : ∀ x ∈ p1, x.block < W.heap.size := by obtain ⟨m, hm⟩ := k1; exact DataW.trod_lt m _ _ _ hm
  obtain ⟨a, b, l, r, rfl, hs, hn, hp⟩ := open_set (hval 0 25 v0 rfl rfl) h0
  obtain ⟨c, d, l', r', rfl, hs', hn', hp'⟩ := open_set (hval 1 25 v1 rfl rfl) h1
  clear hA0 hval0
  refine (exactSameSet_any a b c d l l' r r' W hs hs' hn hp hn' hp').mono fun e W' ⟨he, bel⟩ => ?_
  subst he
  exact ⟨_, rfl, _, _, _, [], _, [], hW', trodAll_mk1 (shut_bool Try.underlying4 _), (trodAll_cons_mk (Below.trod laidOutSS (by kernel_rfl) (of_decide_eq_true (by kernel_rfl)) k0 bel lt0) (trodAll_cons_mk (Below.trod laidOutSS (by kernel_rfl) (of_decide_eq_true (by kernel_rfl)) k1 bel lt1) trodAll_mk0)), rfl, bel.frame _, fun h => by cases h⟩

theorem exactSameSet_holds : Rows.FnExactSameSetSaid :=
  OpenClaim.holds_of_wide 3 Try.f3 rfl rfl rfl rfl rfl rfl rfl ⟨rfl, rfl, rfl, rfl, rfl⟩ rfl rfl rfl rfl rfl (by kernel_rfl) Try.func3 (by kernel_rfl)
    (of_decide_eq_true (by kernel_rfl)) (by unfold Func.isWrapper; first | (rw [if_pos (by decide +kernel)]; kernel_rfl) | (rw [if_neg (by decide +kernel)]; exact ⟨rfl, rfl⟩))
    (fun os started H enc _ => liftedSameSet os started H enc)

#print axioms exactSameSet_holds
end Go.Proofs.Ytfliahkcfnpjcam
