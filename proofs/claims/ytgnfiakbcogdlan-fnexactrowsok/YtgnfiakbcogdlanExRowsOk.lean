/- For every list of rows, the exact law of RowsOk returns true and the list reads afterwards as it read before. -/
import Derived.Test.YtgnfiakbcogdlanR2
import Derived.ChangeOld
namespace Go.Proofs.Ytgnfiakbcogdlan
open Go.ChangeShapes Go.WideShapes Go.ChangeAt Go.RowKit Go.Deep Go.Joins
set_option linter.unusedVariables false
set_option maxRecDepth 100000
set_option maxHeartbeats 1000000
attribute [local go_sem ↓] Go.wp_at_zero Go.wp_at_succ

theorem exactRowsOk_any (v : Value) (l : List Rw) (w : World) {lo hi : Nat} (hl : RowsAt lo hi w v l) (hw : WfRw l) :
    Calls Try.prog 8 #[v] w fun e w' => e = .returned (.bool true) ∧ Below w.heap.size w w' := by
  obtain ⟨a, cap, hv⟩ : ∃ a cap, v = .slice a l.length cap := by obtain ⟨a, cap, h1, _⟩ := hl; exact ⟨a, cap, h1⟩
  subst hv
  go_enter Try.func8, Try.ntmps8
  go_wp2_with fail
  refine (szRowS_any _ l _ hl _ (by omega) (by omega)).mono ?_
  rintro e w1 ⟨q, rfl, hq1, hq2, rfl⟩
  have b1 : Below w1.heap.size w1 w1 := Below.refl _ _
  by_cases hneg : q < 0
  · go_wp2
    go_ret
    exact ⟨rfl, b1⟩
  have hn := hq2 (by omega)
  clear hq2
  go_wp2_with fail
  refine (toRowS_own _ l _ (hl.stays b1) hn).mono ?_
  rintro e w2 ⟨rfl, ho2, hb2⟩
  have b2 := b1.trans (hb2.mono b1.size)
  go_wp2_with fail
  refine (specRowsOk_any _ l _ (ho2.rows (Nat.le_refl _) (Nat.lt_succ_self _) hn)).mono ?_
  rintro e w3 ⟨⟨q3, rfl, hq3⟩, hb3⟩
  have b3 := b2.trans (hb3.mono b2.size)
  clear hb2 hb3 ho2
  go_wp2_with fail
  refine (toRowS_own _ l _ (hl.stays b3) hn).mono ?_
  rintro e w4 ⟨rfl, ho4, hb4⟩
  have b4 := b3.trans (hb4.mono b3.size)
  go_wp2_with fail
  refine (implRowsOk_any _ l _ (ho4.rows (Nat.le_refl _) (Nat.lt_succ_self _) hn)).mono ?_
  rintro e w5 ⟨⟨q5, rfl, hq5⟩, hb5⟩
  have b5 := b4.trans (hb5.mono b4.size)
  obtain rfl : q3 = q5 := by rw [Bool.eq_iff_iff, hq3, hq5]
  have ho5 := ho4.of_block (hb5.block _ ho4.lt)
  clear hq3 hq5 ho4 hb4 hb5
  go_wp2_with fail
  refine (toRowS_own _ l _ (hl.stays b5) hn).mono ?_
  rintro e w6 ⟨rfl, ho6, hb6⟩
  have b6 := b5.trans (hb6.mono b5.size)
  go_wp2_with fail
  refine (eqRowS_at _ _ l _ ((ho5.of_block (hb6.block _ ho5.lt)).rows (Nat.le_refl _) (Nat.lt_succ_self _) hn) (ho6.rows (Nat.le_refl _) (Nat.lt_succ_self _) hn)).mono ?_
  rintro e w7 ⟨rfl, hb7⟩
  go_wp2
  go_ret
  exact ⟨rfl, b6.trans (hb7.mono b6.size)⟩

theorem liftedRowsOk (os : Os) (started : os.Started) (H : Type) (enc : TypeId × Value → H) :
    ReturnsInHanded {} Try.checked os 8 .any (Rows.fnExactRowsOkSpec.pre6 enc Try.prog Try.f8 Rows.fnExactRowsOkRow.domain false) (Rows.fnExactRowsOkSpec.post enc Try.prog Try.f8 false true false false) := by
  refine returnsInHanded_of_change (C := Try.checked) ownKR started (by kernel_rfl) Try.func8
    (ChangeSpec.witness6 (enc := enc) (C := Try.checked) false ⟨#[], #[.slice none 0 0], []⟩ 8 (by kernel_rfl) (by kernel_rfl) (by kernel_rfl) (by kernel_rfl)) ?_
  intro W base args ds gs before hval0 hW hcnd _
  have hval : ∀ (j : Nat) t v, Try.f8.params[j]? = some t → args[j]? = some v → Value.okWide Try.prog W .any base t v := hval0
  have hW' := hW
  obtain ⟨p, q, hA0, hV, rfl, hfz, hnd⟩ := hW
  have hA : DataW.TrodAll enc Try.prog W 0 (fun _ => true) true Try.f8.params.toList args.toList ds p := hA0
  rw [Try.params8] at hA hval
  obtain ⟨v0, vs0, d0, ds0, p0, q0, hargs, rfl, rfl, h0, r0⟩ := trodAll_cons hA
  obtain ⟨rfl, rfl, rfl⟩ := trodAll_nil r0
  obtain rfl : args = #[v0] := by cases args; simp_all
  obtain ⟨rfl, rfl⟩ := trodVars_none hV
  have k0 := h0
  have lt0 : ∀ x ∈ p0, x.block < W.heap.size := by obtain ⟨m, hm⟩ := k0; exact DataW.trod_lt m _ _ _ hm
  obtain ⟨a, n, cap, l, rfl, rfl, hl, hw⟩ := open_rowsArg (hval 0 50 v0 rfl rfl) h0
  clear hA0 hval0
  refine (exactRowsOk_any _ l W hl hw).mono fun e W' ⟨he, bel⟩ => ?_
  subst he
  exact ⟨_, rfl, _, _, _, [], _, [], hW', trodAll_mk1 (shut_bool Try.underlying4 _), trodAll_cons_mk (Below.trod laidOutR (by kernel_rfl) (of_decide_eq_true (by kernel_rfl)) k0 bel lt0) trodAll_mk0, rfl, bel.frame _, fun h => by cases h⟩

theorem exactRowsOk_holds : Rows.FnExactRowsOkSaid :=
  OpenClaim.holds_of_wide 8 Try.f8 rfl rfl rfl rfl rfl rfl rfl ⟨rfl, rfl, rfl, rfl, rfl⟩ rfl rfl rfl rfl rfl (by kernel_rfl) Try.func8 (by kernel_rfl)
    (of_decide_eq_true (by kernel_rfl)) (by unfold Func.isWrapper; first | (rw [if_pos (by decide +kernel)]; kernel_rfl) | (rw [if_neg (by decide +kernel)]; exact ⟨rfl, rfl⟩))
    (fun os started H enc _ => liftedRowsOk os started H enc)

#print axioms exactRowsOk_holds
end Go.Proofs.Ytgnfiakbcogdlan
