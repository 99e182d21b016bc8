/- For every list of rows, the exact law of UserRows returns true and the list reads afterwards as it read before. -/
import Derived.Test.YtgnfiakbcogdlaoR0m
import Derived.Test.YtgnfiakbcogdlaoR3
import Derived.ChangeOld
namespace Go.Proofs.Ytgnfiakbcogdlao
open Go.ChangeShapes Go.WideShapes Go.ChangeAt Go.RowKit Go.Deep Go.Joins
set_option linter.unusedVariables false
set_option maxRecDepth 100000
set_option maxHeartbeats 1000000
attribute [local go_sem ↓] Go.wp_at_zero Go.wp_at_succ

theorem exactUserRows_any (v : Value) (l : List Rw) (w : World) {lo hi : Nat} (hl : RowsAt lo hi w v l) (hw : WfRw l) :
    Calls Try.prog 5 #[v] w fun e w' => e = .returned (.bool true) ∧ Below w.heap.size w w' := by
  obtain ⟨a, cap, hv⟩ : ∃ a cap, v = .slice a l.length cap := by obtain ⟨a, cap, h1, _⟩ := hl; exact ⟨a, cap, h1⟩
  subst hv
  go_enter Try.func5, Try.ntmps5
  go_wp2_with fail
  refine (szRowS_any _ l _ hl _ (by omega) (by omega)).mono ?_
  rintro e w1 ⟨q, rfl, hq1, hq2, rfl⟩
  have b1 : Below w1.heap.size w1 w1 := Below.refl _ _
  by_cases hneg : q < 0
  · go_wp2
    go_ret
    exact ⟨rfl, b1⟩
  have hn := hq2 (by omega)
  clear hq2
  go_wp2_with fail
  refine Calls.mono (toRowS_ex _ l _ (hl.stays b1) hn) ?_
  rintro e w2 ⟨B2, rfl, ho2, hB2, hb2⟩
  have b2 := b1.trans (hb2.mono b1.size)
  go_wp2_with fail
  refine (specUserRows_any _ l _ (ho2.rows (Nat.le_refl _) (Nat.lt_succ_self _) hn) hn).mono ?_
  rintro e w3 ⟨⟨v3, rs, rfl, hans, hr3⟩, hb3⟩
  have b3 := b2.trans (hb3.mono b2.size)
  have hlen : rs.length ≤ 1048580 := by
    rcases hans with ⟨_, rfl⟩ | ⟨_, rfl⟩
    · exact Nat.le_trans (List.length_filter_le _ _) (by omega)
    · exact Nat.zero_le _
  clear hb2 hb3 ho2 b2
  go_wp2_with fail
  refine Calls.mono (toRowS_ex _ l _ (hl.stays b3) hn) ?_
  rintro e w4 ⟨B4, rfl, ho4, hB4, hb4⟩
  have b4 := b3.trans (hb4.mono b3.size)
  go_wp2_with fail
  refine (implUserRows_any _ l _ (ho4.rows (Nat.le_refl _) (Nat.lt_succ_self _) hn) hn).mono ?_
  rintro e w5 ⟨⟨v5, rs', rfl, hans', hr5⟩, hb5⟩
  obtain rfl : rs' = rs := by
    rcases hans with ⟨h1, rfl⟩ | ⟨h1, rfl⟩ <;> rcases hans' with ⟨h2, rfl⟩ | ⟨h2, rfl⟩ <;> first | rfl | exact absurd h1 h2 | exact absurd h2 h1
  have b5 := b4.trans (hb5.mono b4.size)
  have t5 := hb4.trans (hb5.mono hb4.size)
  have hB4' : B4 < w4.heap.size := ho4.lt
  have ho5 := ho4.of_block (hb5.block _ ho4.lt)
  have hz45 := hb5.size
  have hz34 := hb4.size
  have hz3 := b3.size
  clear hans' ho4 hb5 b4 b3 hb4
  go_wp2_with fail
  refine (eqRowS_same _ _ rs' _ hr5 (hr3.stays t5) hlen).mono ?_
  rintro e w6 ⟨rfl, hb6⟩
  have b6 := b5.trans (hb6.mono b5.size)
  have t6 := t5.trans (hb6.mono t5.size)
  have ho6 := ho5.of_block (hb6.block _ ho5.lt)
  have hr6 := hr5.stays hb6
  have hz6 := hb6.size
  clear b5 ho5 hr5 hb6 t5
  go_wp2_with fail
  refine Calls.mono (toRowS_ex _ l _ (hl.stays b6) hn) ?_
  rintro e w7 ⟨B7, rfl, ho7, hB7, hb7⟩
  have b7 := b6.trans (hb7.mono b6.size)
  have t7 := t6.trans (hb7.mono t6.size)
  have ho7' := ho6.of_block (hb7.block _ ho6.lt)
  have hr7 := hr6.stays hb7
  have hz7 := hb7.size
  clear ho6 hr6 hb7 b6 t6
  go_wp2_with fail
  refine (eqRowS_at _ _ l _ (ho7'.rows (Nat.le_refl _) (Nat.lt_succ_self _) hn) (ho7.rows (Nat.le_refl _) (Nat.lt_succ_self _) hn)).mono ?_
  rintro e w8 ⟨rfl, hb8⟩
  have b8 := b7.trans (hb8.mono b7.size)
  have t8 := t7.trans (hb8.mono t7.size)
  have ho8 := ho7'.of_block (hb8.block _ ho7'.lt)
  have hr8 := hr7.stays hb8
  have hz8 := hb8.size
  clear ho7 ho7' hr7 hb8 b7 t7
  go_wp2_with fail
  refine (markRowS_at B4 l.length l 1 _ ho8 (by omega) (by omega)).mono ?_
  rintro e w9 ⟨rfl, hw9⟩
  have u9 : Below w3.heap.size w8 w9 := hw9.below fun k hk => by omega
  have b9 := b8.trans (u9.mono hz3)
  have t9 := t8.trans u9
  have hr9 : OwnR w4.heap.size w9 v5 rs' := hr8.keep fun k h1 h2 => hw9.block k (by omega)
  clear ho8 hr8 u9 hw9 b8 t8
  go_wp2_with fail
  refine (eqRowS_same _ _ rs' _ hr9 (hr3.stays t9) hlen).mono ?_
  rintro e w10 ⟨rfl, hb10⟩
  have b10 := b9.trans (hb10.mono b9.size)
  have t10 := t9.trans (hb10.mono t9.size)
  have hr10 := hr9.stays hb10
  clear b9 t9 hr9 hb10
  go_wp2_with fail
  refine (markRowS_any _ rs' 1 _ hr10 hlen (by omega)).mono ?_
  rintro e w11 ⟨rfl, hw11, hm11⟩
  have u11 : Below w4.heap.size w10 w11 := hw11.below fun k hk => hk
  have b11 := b10.trans (u11.mono (by omega))
  have t11 := t10.trans (u11.mono (by omega))
  clear b10 t10 hr10 hw11 u11
  go_wp2_with fail
  refine (heldRowS_any _ rs'.length 1 _ hm11 hlen (by omega)).mono ?_
  rintro e w12 ⟨rfl, rfl⟩
  go_wp2_with fail
  refine Calls.mono (toRowS_ex _ l _ (hl.stays b11) hn) ?_
  rintro e w13 ⟨B13, rfl, ho13, hB13, hb13⟩
  have b13 := b11.trans (hb13.mono b11.size)
  have t13 := t11.trans (hb13.mono t11.size)
  have hm13 := hm11.keep (base := 0) hb13
  clear b11 t11 hm11 hb13
  go_wp2_with fail
  refine (implUserRows_any _ l _ (ho13.rows (Nat.le_refl _) (Nat.lt_succ_self _) hn) hn).mono ?_
  rintro e w14 ⟨⟨v14, rs2, rfl, hans2, hr14⟩, hb14⟩
  obtain rfl : rs2 = rs' := by
    rcases hans with ⟨h1, rfl⟩ | ⟨h1, rfl⟩ <;> rcases hans2 with ⟨h2, rfl⟩ | ⟨h2, rfl⟩ <;> first | rfl | exact absurd h1 h2 | exact absurd h2 h1
  have b14 := b13.trans (hb14.mono b13.size)
  have t14 := t13.trans (hb14.mono t13.size)
  have hm14 := hm13.keep (base := 0) hb14
  clear b13 t13 hm13 hb14 ho13 hans2
  go_wp2_with fail
  refine (eqRowS_same _ _ rs2 _ hr14 (hr3.stays t14) hlen).mono ?_
  rintro e w15 ⟨rfl, hb15⟩
  have b15 := b14.trans (hb15.mono b14.size)
  have hm15 := hm14.keep (base := 0) hb15
  clear hr14 hr3 t14 b14 hm14 hb15
  go_wp2_with fail
  refine (heldRowS_any _ rs2.length 1 _ hm15 hlen (by omega)).mono ?_
  rintro e w16 ⟨rfl, rfl⟩
  go_wp2
  go_ret
  exact ⟨rfl, b15⟩

theorem liftedUserRows (os : Os) (started : os.Started) (H : Type) (enc : TypeId × Value → H) :
    ReturnsInHanded {} Try.checked os 5 .any (Rows.fnExactUserRowsSpec.pre6 enc Try.prog Try.f5 Rows.fnExactUserRowsRow.domain false) (Rows.fnExactUserRowsSpec.post enc Try.prog Try.f5 false true false false) := by
  refine returnsInHanded_of_change (C := Try.checked) ownKR started (by kernel_rfl) Try.func5
    (ChangeSpec.witness6 (enc := enc) (C := Try.checked) false ⟨#[], #[.slice none 0 0], []⟩ 8 (by kernel_rfl) (by kernel_rfl) (by kernel_rfl) (by kernel_rfl)) ?_
  intro W base args ds gs before hval0 hW hcnd _
  have hval : ∀ (j : Nat) t v, Try.f5.params[j]? = some t → args[j]? = some v → Value.okWide Try.prog W .any base t v := hval0
  have hW' := hW
  obtain ⟨p, q, hA0, hV, rfl, hfz, hnd⟩ := hW
  have hA : DataW.TrodAll enc Try.prog W 0 (fun _ => true) true Try.f5.params.toList args.toList ds p := hA0
  rw [Try.params5] at hA hval
  obtain ⟨v0, vs0, d0, ds0, p0, q0, hargs, rfl, rfl, h0, r0⟩ := trodAll_cons hA
  obtain ⟨rfl, rfl, rfl⟩ := trodAll_nil r0
  obtain rfl : args = #[v0] := by cases args; simp_all
  obtain ⟨rfl, rfl⟩ := trodVars_none hV
  have k0 := h0
  have lt0 : ∀ x ∈ p0, x.block < W.heap.size := by obtain ⟨m, hm⟩ := k0; exact DataW.trod_lt m _ _ _ hm
  obtain ⟨a, n, cap, l, rfl, rfl, hl, hw⟩ := open_rowsArg (hval 0 22 v0 rfl rfl) h0
  clear hA0 hval0
  refine (exactUserRows_any _ l W hl hw).mono fun e W' ⟨he, bel⟩ => ?_
  subst he
  exact ⟨_, rfl, _, _, _, [], _, [], hW', trodAll_mk1 (shut_bool Try.underlying4 _), trodAll_cons_mk (Below.trod laidOutR (by kernel_rfl) (of_decide_eq_true (by kernel_rfl)) k0 bel lt0) trodAll_mk0, rfl, bel.frame _, fun h => by cases h⟩

theorem exactUserRows_holds : Rows.FnExactUserRowsSaid :=
  OpenClaim.holds_of_wide 5 Try.f5 rfl rfl rfl rfl rfl rfl rfl ⟨rfl, rfl, rfl, rfl, rfl⟩ rfl rfl rfl rfl rfl (by kernel_rfl) Try.func5 (by kernel_rfl)
    (of_decide_eq_true (by kernel_rfl)) (by unfold Func.isWrapper; first | (rw [if_pos (by decide +kernel)]; kernel_rfl) | (rw [if_neg (by decide +kernel)]; exact ⟨rfl, rfl⟩))
    (fun os started H enc _ => liftedUserRows os started H enc)

#print axioms exactUserRows_holds
end Go.Proofs.Ytgnfiakbcogdlao
