/- For every set, the exact law of TargetOk returns true and the set reads afterwards as it read before. -/
import Derived.Test.YtppecnnjgcooaaaXTgt2
import Derived.Test.YtppecnnjgcooaaaIProcs
import Derived.Test.YtppecnnjgcooaaaTEq
import Derived.Test.YtppecnnjgcooaaaTOpen
import Derived.ChangeOld
namespace Go.Proofs.Ytppecnnjgcooaaa
open Go.ChangeShapes Go.WideShapes Go.ChangeAt Go.RowKit
set_option linter.unusedVariables false
set_option maxRecDepth 100000
attribute [local go_sem ↓] Go.wp_at_zero Go.wp_at_succ

theorem sum_le {α : Type} (f : α → Nat) (B : Nat) : ∀ (l : List α), (∀ x, x ∈ l → f x ≤ B) → (l.map f).sum ≤ l.length * B
  | [], _ => by simp
  | x :: r, h => by
    have a := sum_le f B r fun y hy => h y (List.mem_cons_of_mem _ hy)
    have b := h x (List.mem_cons_self ..)
    rw [List.map_cons, List.sum_cons, List.length_cons, Nat.add_mul, Nat.one_mul]
    omega
theorem small_sum {l : List Nd} {p : List Pr} (h : SmallS l p) : sumS l + sumP p ≤ 4611686018427387904 := by
  have h1 : sumS l ≤ l.length * 1048576 := sum_le (fun x : Nd => x.s.size) 1048576 l fun x hx => by
    obtain ⟨i, hi, e⟩ := List.mem_iff_getElem.1 hx
    have e2 : ndAt l i = x := by simp [ndAt, hi, e]
    rw [← e2]
    exact h.1.2 i hi
  have h2 : sumP p ≤ p.length * 1099512676352 := sum_le (fun x : Pr => x.name.size + sumT x.ps) 1099512676352 p fun x hx => by
    obtain ⟨i, hi, e⟩ := List.mem_iff_getElem.1 hx
    have e2 : prAt p i = x := by simp [prAt, hi, e]
    have h3 := h.2.2 i hi
    rw [e2] at h3
    have h4 : sumT x.ps ≤ x.ps.length * 1048576 := sum_le (fun y : ByteArray => y.size) 1048576 x.ps fun y hy => by
      obtain ⟨j, hj, ej⟩ := List.mem_iff_getElem.1 hy
      have e3 : sAt x.ps j = y := by simp [sAt, hj, ej]
      rw [← e3]
      exact h3.2 j hj
    have h5 : x.ps.length ≤ 1048576 := by
      have := h.2.1.2 i hi
      rw [e2] at this
      exact this
    have h6 := Nat.mul_le_mul_right 1048576 h5
    show x.name.size + sumT x.ps ≤ _
    omega
  have h3 := Nat.mul_le_mul_right 1048576 h.1.1.1
  have h4 := Nat.mul_le_mul_right 1099512676352 h.2.1.1
  omega

set_option maxHeartbeats 4000000 in
theorem exactTargetOk_any (v u : Value) (l : List Nd) (p : List Pr) (w : World) {lo hi : Nat} (h : SetAt lo hi w v u l p) (hw : WfN l) (hp : WfP p) :
    Calls Try.prog 3 #[.agg #[v, u]] w fun e w' => e = .returned (.bool true) ∧ Below w.heap.size w w' := by
  obtain ⟨a, c, b, d, rfl, rfl⟩ := h.forms
  have b0 : Below w.heap.size w (w.alloc (Obj.cells #[Value.slice a l.length c, Value.slice b p.length d] 25)) := (Below.refl _ _).alloc (Nat.le_refl _) _
  have y0 : (w.alloc (Obj.cells #[Value.slice a l.length c, Value.slice b p.length d] 25)).cell? ⟨w.heap.size, 0, none⟩ = some (.slice a l.length c) := by simp [go_sem]
  have y1 : (w.alloc (Obj.cells #[Value.slice a l.length c, Value.slice b p.length d] 25)).cell? ⟨w.heap.size, 1, none⟩ = some (.slice b p.length d) := by simp [go_sem]
  go_enter Try.func3, Try.ntmps3
  go_wp2_with fail
  generalize w.alloc (Obj.cells #[Value.slice a l.length c, Value.slice b p.length d] 25) = w0 at *
  refine (szSet_any _ _ l p _ (h.stays b0) hw hp _ (by omega) (by omega)).mono ?_
  rintro e w1 ⟨q, rfl, hq1, hq2, hb1⟩
  have b1 := b0.trans (hb1.mono b0.size)
  have x0 := cell_stays hb1 y0
  have x1 := cell_stays hb1 y1
  clear y0 y1 hb1
  by_cases hneg : q < 0
  · go_wp2
    go_ret
    exact ⟨rfl, b1⟩
  have hs := hq2 (by omega)
  clear hq2
  have HS : Hid (SmallS l p) := hs
  clear hs
  go_wp2_with fail
  refine (toSet_any _ _ l p _ (h.stays b1) HS.out.1.1 HS.out.2.1).mono ?_
  rintro e w2 ⟨a2, c2, b2', d2, rfl, hv2, hb2⟩
  have b2 := b1.trans (hb2.mono b1.size)
  have z0 := cell_stays hb2 x0
  have z1 := cell_stays hb2 x1
  clear x0 x1 hb2
  go_wp2_with fail
  refine (xTarget_any _ _ l p _ hv2).mono ?_
  obtain ⟨TG, hTG⟩ : ∃ x, targetF l p = x := ⟨_, rfl⟩
  rw [hTG]
  rintro e w3 ⟨rfl, hb3⟩
  have b3 := b2.trans (hb3.mono b2.size)
  have x0 := cell_stays hb3 z0
  have x1 := cell_stays hb3 z1
  clear z0 z1 hb3 hv2
  go_wp2_with fail
  refine (toSet_any _ _ l p _ (h.stays b3) HS.out.1.1 HS.out.2.1).mono ?_
  rintro e w5 ⟨a5, c5, b5', d5, rfl, hv5, hb5⟩
  have b5 := b3.trans (hb5.mono b3.size)
  have z0 := cell_stays hb5 x0
  have z1 := cell_stays hb5 x1
  clear x0 x1 hb5
  have hb6 : Below w5.heap.size w5 (w5.alloc (Obj.cells #[Value.slice a5 l.length c5, Value.slice b5' p.length d5] 31)) := (Below.refl _ _).alloc (Nat.le_refl _) _
  have b6 := b5.trans (hb6.mono b5.size)
  have hv6 := hv5.stays hb6
  have x0 := cell_stays hb6 z0
  have x1 := cell_stays hb6 z1
  have y0 : (w5.alloc (Obj.cells #[Value.slice a5 l.length c5, Value.slice b5' p.length d5] 31)).cell? ⟨w5.heap.size, 0, none⟩ = some (Value.slice a5 l.length c5) := by simp [go_sem]
  have y1 : (w5.alloc (Obj.cells #[Value.slice a5 l.length c5, Value.slice b5' p.length d5] 31)).cell? ⟨w5.heap.size, 1, none⟩ = some (Value.slice b5' p.length d5) := by simp [go_sem]
  clear z0 z1 hv5 hb6
  go_wp2_with fail
  generalize w5.alloc (Obj.cells #[Value.slice a5 l.length c5, Value.slice b5' p.length d5] 31) = w6 at *
  refine (target_any _ _ l p _ hv6 (small_sum HS.out)).mono ?_
  rw [hTG]
  rintro e w9 ⟨rfl, hb9⟩
  have b9 := b6.trans (hb9.mono b6.size)
  have hv9 := hv6.stays hb9
  have z0 := cell_stays hb9 x0
  have z1 := cell_stays hb9 x1
  have y0' := cell_stays hb9 y0
  have y1' := cell_stays hb9 y1
  clear x0 x1 y0 y1 hb9 hv6
  have TA : ∀ x, Below w9.heap.size w9 x → Below w.heap.size w x ∧ x.cell? ⟨w.heap.size, 0, none⟩ = some (.slice a l.length c) ∧ x.cell? ⟨w.heap.size, 1, none⟩ = some (.slice b p.length d) ∧ x.cell? ⟨w5.heap.size, 0, none⟩ = some (.slice a5 l.length c5) ∧ x.cell? ⟨w5.heap.size, 1, none⟩ = some (.slice b5' p.length d5) := fun x hx => ⟨b9.trans (hx.mono b9.size), cell_stays hx z0, cell_stays hx z1, cell_stays hx y0', cell_stays hx y1'⟩
  go_wp2_with fail
  refine region_last (fun x => Below w.heap.size w x ∧ x.cell? ⟨w.heap.size, 0, none⟩ = some (.slice a l.length c) ∧ x.cell? ⟨w.heap.size, 1, none⟩ = some (.slice b p.length d) ∧ x.cell? ⟨w5.heap.size, 0, none⟩ = some (.slice a5 l.length c5) ∧ x.cell? ⟨w5.heap.size, 1, none⟩ = some (.slice b5' p.length d5)) (by kernel_rfl) (by kernel_rfl) (by kernel_rfl) (TA _ (Below.refl _ _).drew) (fun hHeld => ?_)
  simp only [List.dropLast, List.length_cons, List.length_nil, Nat.reduceAdd]
  refine takeL (i := 0) (v := ?_) rfl (by kernel_rfl) (by kernel_rfl) (by kernel_rfl) (fun _ _ _ h => h) rfl (by assumption) ?_ ?_
  rotate_left
  · (intro wS hSw; (try dsimp only at hSw); go_simp; try with_reducible rfl)
  (try simp only [Act.put, List.setIfInBounds_toArray, List.set_cons_zero, List.set_cons_succ])
  refine takeL (i := 1) (v := ?_) rfl (by kernel_rfl) (by kernel_rfl) (by kernel_rfl) (fun _ _ _ h => h) rfl (by assumption) ?_ ?_
  rotate_left
  · (intro wS hSw; (try dsimp only at hSw); go_simp; try with_reducible rfl)
  (try simp only [Act.put, List.setIfInBounds_toArray, List.set_cons_zero, List.set_cons_succ])
  refine stepL (i := 2) rfl (by kernel_rfl) (fun K hK => ?_)
  rw [if_pos (by rfl)]
  go_simp
  refine (toSet_any _ _ l p _ (h.stays (TA _ (Below.refl _ _).drew).1) HS.out.1.1 HS.out.2.1).mono ?_
  rintro e wA ⟨aA, cA, bA, dA, rfl, hvA, hbA⟩
  have bA9 : Below w9.heap.size w9 wA := (Below.refl _ _).drew.trans hbA
  refine hK.out _ _ (TA _ bA9) (fun hHeld2 => ?_)
  clear hK K hHeld
  (try simp only [Act.put, List.setIfInBounds_toArray, List.set_cons_zero, List.set_cons_succ])
  refine stepL (i := 3) rfl (by kernel_rfl) (fun K hK => ?_)
  rw [if_pos (by rfl)]
  go_simp
  refine (eqSet_same _ _ _ _ l p _ (hv9.stays bA9) hvA).mono ?_
  rintro e wB ⟨rfl, hbB⟩
  have bB9 : Below w9.heap.size w9 wB := bA9.trans (hbB.mono bA9.size)
  refine hK.out _ _ (TA _ bB9) (fun hHeld3 => ?_)
  clear hK K hHeld2
  (try simp only [Act.put, List.setIfInBounds_toArray, List.set_cons_zero, List.set_cons_succ])
  refine wpAnyH_done (by kernel_rfl) ?_ _
  refine lastL (n := 4) rfl rfl ?_
  go_simp
  clear hHeld3
  have BB := (TA _ bB9).1
  clear TA
  go_wp2
  go_ret
  exact ⟨rfl, BB⟩

theorem ownTO : ownKnob Try.prog.godebug = none := by kernel_rfl
theorem laidOutTO : laidOutB Try.prog = true := by kernel_rfl

set_option maxRecDepth 100000 in
theorem liftedTargetOk (os : Os) (started : os.Started) (H : Type) (enc : TypeId × Value → H) :
    ReturnsInHanded {} Try.checked os 3 .any (Rows.fnExactTargetOkSpec.pre6 enc Try.prog Try.f3 Rows.fnExactTargetOkRow.domain false) (Rows.fnExactTargetOkSpec.post enc Try.prog Try.f3 false true false false) := by
  refine returnsInHanded_of_change (C := Try.checked) ownTO started (by kernel_rfl) Try.func3
    (ChangeSpec.witness6 (enc := enc) (C := Try.checked) false ⟨#[], #[.agg #[.slice none 0 0, .slice none 0 0]], []⟩ 8 (by kernel_rfl) (by kernel_rfl) (by kernel_rfl) (by kernel_rfl)) ?_
  intro W base args ds gs before hval0 hW hcnd _
  have hval : ∀ (j : Nat) t v, Try.f3.params[j]? = some t → args[j]? = some v → Value.okWide Try.prog W .any base t v := hval0
  have hW' := hW
  obtain ⟨p, q, hA0, hV, rfl, hfz, hnd⟩ := hW
  have hA : DataW.TrodAll enc Try.prog W 0 (fun _ => true) true Try.f3.params.toList args.toList ds p := hA0
  rw [Try.params3] at hA hval
  obtain ⟨v0, vs0, d0, ds0, p0, q0, hargs, rfl, rfl, h0, r0⟩ := trodAll_cons hA
  obtain ⟨rfl, rfl, rfl⟩ := trodAll_nil r0
  obtain rfl : args = #[v0] := by cases args; simp_all
  obtain ⟨rfl, rfl⟩ := trodVars_none hV
  have k0 := h0
  have lt0 : ∀ x ∈ p0, x.block < W.heap.size := by obtain ⟨m, hm⟩ := k0; exact DataW.trod_lt m _ _ _ hm
  obtain ⟨a, b, l, r, rfl, hs, hn, hp⟩ := open_set (hval 0 25 v0 rfl rfl) h0
  clear hA0 hval0
  refine (exactTargetOk_any a b l r W hs hn hp).mono fun e W' ⟨he, bel⟩ => ?_
  subst he
  exact ⟨_, rfl, _, _, _, [], _, [], hW', trodAll_mk1 (shut_bool Try.underlying4 _), trodAll_cons_mk (Below.trod laidOutTO (by kernel_rfl) (of_decide_eq_true (by kernel_rfl)) k0 bel lt0) trodAll_mk0, rfl, bel.frame _, fun h => by cases h⟩

theorem exactTargetOk_holds : Rows.FnExactTargetOkSaid :=
  OpenClaim.holds_of_wide 3 Try.f3 rfl rfl rfl rfl rfl rfl rfl ⟨rfl, rfl, rfl, rfl, rfl⟩ rfl rfl rfl rfl rfl (by kernel_rfl) Try.func3 (by kernel_rfl)
    (of_decide_eq_true (by kernel_rfl)) (by unfold Func.isWrapper; first | (rw [if_pos (by decide +kernel)]; kernel_rfl) | (rw [if_neg (by decide +kernel)]; exact ⟨rfl, rfl⟩))
    (fun os started H enc _ => liftedTargetOk os started H enc)

#print axioms exactTargetOk_holds
end Go.Proofs.Ytppecnnjgcooaaa
