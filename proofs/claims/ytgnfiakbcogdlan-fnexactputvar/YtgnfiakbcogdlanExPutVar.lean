/- For every list of variables, every name and every value, the exact law of PutVar returns true and the list reads afterwards as it read before. -/
import Derived.Test.YtgnfiakbcogdlanV10
import Derived.ChangeOld
namespace Go.Proofs.Ytgnfiakbcogdlan
open Go.ChangeShapes Go.WideShapes Go.ChangeAt Go.RowKit Go.Deep Go.Joins
open Go.ChangeMaps (open_string shut_string)
set_option linter.unusedVariables false
set_option maxRecDepth 100000
attribute [local go_sem ↓] Go.wp_at_zero Go.wp_at_succ

set_option maxHeartbeats 1000000 in
theorem exactPutVar_any (va : Value) (l : List Va) (s : ByteArray) (v : Int) (w : World) {lo hi : Nat} (hl : VarsAt lo hi w va l) (hw : WfVa l) :
    Calls Try.prog 6 #[va, .string s, .int .i64 v] w fun e w' => e = .returned (.bool true) ∧ Below w.heap.size w w' := by
  obtain ⟨a, cap, hv⟩ : ∃ a cap, va = .slice a l.length cap := by obtain ⟨a, cap, h1, _⟩ := hl; exact ⟨a, cap, h1⟩
  subst hv
  by_cases hsn : 1048576 < s.size
  · go_enter Try.func6, Try.ntmps6
    go_wp2
    go_ret
    exact ⟨rfl, Below.refl _ _⟩
  have hsl : s.size ≤ 1048576 := by omega
  go_enter Try.func6, Try.ntmps6
  go_wp2_with fail
  refine (szVarS_any _ l _ hl hw _ (by omega) (by omega)).mono ?_
  rintro e w1 ⟨q, rfl, hq1, hq2, b1⟩
  by_cases hneg : q < 0
  · go_wp2
    go_ret
    exact ⟨rfl, b1⟩
  have hs := hq2 (by omega)
  have hn := hs.1
  clear hq2
  go_wp2_with fail
  refine Calls.mono (toVarS_ex _ l _ (hl.stays b1) hn) ?_
  rintro e w2 ⟨B2, rfl, ho2, hB2, hb2⟩
  have b2 := b1.trans (hb2.mono b1.size)
  go_wp2_with fail
  refine (specPutVar_any _ l s v _ (ho2.at hn _) ho2.lt hw hs hsl).mono ?_
  rintro e w3 ⟨⟨v3, rs, rfl, hans, hrl, hown3⟩, hb3⟩
  have b3 := b2.trans (hb3.mono b2.size)
  have hlen : rs.length ≤ 1048580 := by omega
  obtain ⟨a3, c3, rfl, hr3, _⟩ := vars_of_owns hown3 hlen
  clear hb2 hb3 ho2 b2 hown3
  go_wp2_with fail
  refine Calls.mono (toVarS_ex _ l _ (hl.stays b3) hn) ?_
  rintro e w4 ⟨B4, rfl, ho4, hB4, hb4⟩
  have b4 := b3.trans (hb4.mono b3.size)
  go_wp2_with fail
  refine (implPutVar_any _ l s v _ (ho4.at hn _) ho4.lt hw hs hsl).mono ?_
  rintro e w5 ⟨⟨v5, rs', rfl, hans', hrl', hown5⟩, hb5⟩
  obtain rfl : rs' = rs := putv_one hans hans'
  obtain ⟨a5, c5, rfl, hr5, hf5⟩ := vars_of_owns hown5 hlen
  have b5 := b4.trans (hb5.mono b4.size)
  have t5 := hb4.trans (hb5.mono hb4.size)
  have hB4' : B4 < w4.heap.size := ho4.lt
  have ho5 := ho4.stays hb5
  have hz45 := hb5.size
  have hz34 := hb4.size
  have hz3 := b3.size
  clear hans' ho4 hb5 b4 b3 hb4 hown5
  go_wp2_with fail
  refine (eqVarS_same _ _ rs' _ hr5 (hr3.stays t5)).mono ?_
  rintro e w6 ⟨rfl, hb6⟩
  have b6 := b5.trans (hb6.mono b5.size)
  have t6 := t5.trans (hb6.mono t5.size)
  have ho6 := ho5.stays hb6
  have hr6 := hr5.stays hb6
  have hf6 := hf5.stays hb6
  have hz6 := hb6.size
  clear b5 ho5 hr5 hb6 t5 hf5
  go_wp2_with fail
  refine Calls.mono (toVarS_ex _ l _ (hl.stays b6) hn) ?_
  rintro e w7 ⟨B7, rfl, ho7, hB7, hb7⟩
  have b7 := b6.trans (hb7.mono b6.size)
  have t7 := t6.trans (hb7.mono t6.size)
  have ho7' := ho6.stays hb7
  have hr7 := hr6.stays hb7
  have hf7 := hf6.stays hb7
  have hz7 := hb7.size
  clear ho6 hr6 hb7 b6 t6 hf6
  go_wp2_with fail
  refine (eqVarS_same _ _ l _ (ho7'.at hn _) (ho7.at hn _)).mono ?_
  rintro e w8 ⟨rfl, hb8⟩
  have b8 := b7.trans (hb8.mono b7.size)
  have t8 := t7.trans (hb8.mono t7.size)
  have ho8 := ho7'.stays hb8
  have hr8 := hr7.stays hb8
  have hf8 := hf7.stays hb8
  have hz8 := hb8.size
  clear ho7 ho7' hr7 hb8 b7 t7 hf7
  go_wp2_with fail
  refine (markVarS_any (some ⟨B4, 0, none⟩) l.length l.length w3.heap.size _ (by omega) (by omega) (ho8.free _ hB4)).mono ?_
  rintro e w9 ⟨rfl, _, hoth, u9⟩
  have b9 := b8.trans (u9.mono hz3)
  have t9 := t8.trans u9
  have hk9 : ∀ k, w4.heap.size ≤ k → k < w8.heap.size → w9.heap[k]? = w8.heap[k]? := fun k h1 h2 => hoth k h2 (fun e => by injection e with e; injection e with e; omega)
  have hr9 := hr8.keep (w' := w9) fun k h1 _ h2 => hk9 k h1 h2
  have hf9 := hf8.keep u9.size hk9
  have hz9 := u9.size
  clear ho8 hr8 u9 hoth b8 t8 hf8 hk9
  go_wp2_with fail
  refine (eqVarS_same _ _ rs' _ hr9 (hr3.stays t9)).mono ?_
  rintro e w10 ⟨rfl, hb10⟩
  have b10 := b9.trans (hb10.mono b9.size)
  have t10 := t9.trans (hb10.mono t9.size)
  have hf10 := hf9.stays hb10
  have hz10 := t10.size
  have hz410 : w4.heap.size ≤ w10.heap.size := by have := t9.size; have := hb10.size; omega
  clear b9 t9 hr9 hb10 hf9
  go_wp2_with fail
  refine (markVarS_any a5 rs'.length c5 w4.heap.size _ hlen hz410 hf10).mono ?_
  rintro e w11 ⟨rfl, hm11, hoth11, u11⟩
  have b11 := b10.trans (u11.mono (by omega))
  have t11 := t10.trans (u11.mono (by omega))
  have hM11 : 0 < rs'.length → ∃ g, a5 = some ⟨g, 0, none⟩ ∧ g < w11.heap.size ∧ MarkedV w11 g 1 rs'.length := fun hp => by
    obtain ⟨g, h1, _, h3, _⟩ := hf10 hp
    exact ⟨g, h1, Nat.lt_of_lt_of_le h3 u11.size, hm11 g h1 hp⟩
  clear b10 t10 hf10 hm11 hoth11 u11
  go_wp2_with fail
  refine (heldVarS_any a5 rs'.length c5 _ hlen hM11).mono ?_
  rintro e w12 ⟨rfl, hb12⟩
  have keepM : ∀ {x y : World}, Below x.heap.size x y → (0 < rs'.length → ∃ g, a5 = some ⟨g, 0, none⟩ ∧ g < x.heap.size ∧ MarkedV x g 1 rs'.length) → (0 < rs'.length → ∃ g, a5 = some ⟨g, 0, none⟩ ∧ g < y.heap.size ∧ MarkedV y g 1 rs'.length) := fun hb h hp => by
    obtain ⟨g, h1, h2, h3⟩ := h hp
    exact ⟨g, h1, Nat.lt_of_lt_of_le h2 hb.size, h3.stays hb h2⟩
  have HKM : Hid (∀ {x y : World}, Below x.heap.size x y → (0 < rs'.length → ∃ g, a5 = some ⟨g, 0, none⟩ ∧ g < x.heap.size ∧ MarkedV x g 1 rs'.length) → (0 < rs'.length → ∃ g, a5 = some ⟨g, 0, none⟩ ∧ g < y.heap.size ∧ MarkedV y g 1 rs'.length)) := keepM
  have b12 := b11.trans (hb12.mono b11.size)
  have t12 := t11.trans (hb12.mono t11.size)
  have hM12 := keepM hb12 hM11
  clear keepM b11 t11 hM11 hb12
  go_wp2_with fail
  refine Calls.mono (toVarS_ex _ l _ (hl.stays b12) hn) ?_
  rintro e w13 ⟨B13, rfl, ho13, hB13, hb13⟩
  have b13 := b12.trans (hb13.mono b12.size)
  have t13 := t12.trans (hb13.mono t12.size)
  have hM13 := HKM.out hb13 hM12
  clear b12 t12 hM12 hb13
  go_wp2_with fail
  refine (implPutVar_any _ l s v _ (ho13.at hn _) ho13.lt hw hs hsl).mono ?_
  rintro e w14 ⟨⟨v14, rs2, rfl, hans2, hrl2, hown14⟩, hb14⟩
  obtain rfl : rs2 = rs' := putv_one hans hans2
  obtain ⟨a14, c14, rfl, hr14, _⟩ := vars_of_owns hown14 hlen
  have b14 := b13.trans (hb14.mono b13.size)
  have t14 := t13.trans (hb14.mono t13.size)
  have hM14 := HKM.out hb14 hM13
  clear b13 t13 hM13 hb14 ho13 hans2 hown14
  go_wp2_with fail
  refine (eqVarS_same _ _ rs2 _ hr14 (hr3.stays t14)).mono ?_
  rintro e w15 ⟨rfl, hb15⟩
  have b15 := b14.trans (hb15.mono b14.size)
  have hM15 := HKM.out hb15 hM14
  clear hr14 hr3 t14 b14 hM14 hb15
  go_wp2_with fail
  refine (heldVarS_any a5 rs2.length c5 _ hlen hM15).mono ?_
  rintro e w16 ⟨rfl, hb16⟩
  go_wp2
  go_ret
  exact ⟨rfl, b15.trans (hb16.mono b15.size)⟩

theorem liftedPutVar (os : Os) (started : os.Started) (H : Type) (enc : TypeId × Value → H) :
    ReturnsInHanded {} Try.checked os 6 .any (Rows.fnExactPutVarSpec.pre6 enc Try.prog Try.f6 Rows.fnExactPutVarRow.domain false) (Rows.fnExactPutVarSpec.post enc Try.prog Try.f6 false true false false) := by
  refine returnsInHanded_of_change (C := Try.checked) ownKV started (by kernel_rfl) Try.func6
    (ChangeSpec.witness6 (enc := enc) (C := Try.checked) false ⟨#[], #[.slice none 0 0, .string ⟨#[97]⟩, .int .i64 0], []⟩ 8 (by kernel_rfl) (by kernel_rfl) (by kernel_rfl) (by kernel_rfl)) ?_
  intro W base args ds gs before hval0 hW hcnd _
  have hval : ∀ (j : Nat) t v, Try.f6.params[j]? = some t → args[j]? = some v → Value.okWide Try.prog W .any base t v := hval0
  have hW' := hW
  obtain ⟨p, q, hA0, hV, rfl, hfz, hnd⟩ := hW
  have hA : DataW.TrodAll enc Try.prog W 0 (fun _ => true) true Try.f6.params.toList args.toList ds p := hA0
  rw [Try.params6] at hA hval
  obtain ⟨v0, vs0, d0, ds0, p0, q0, hargs, rfl, rfl, h0, r0⟩ := trodAll_cons hA
  obtain ⟨v1, vs1, d1, ds1, p1, q1, rfl, rfl, rfl, h1, r1⟩ := trodAll_cons r0
  obtain ⟨v2, vs2, d2, ds2, p2, q2, rfl, rfl, rfl, h2, r2⟩ := trodAll_cons r1
  obtain ⟨rfl, rfl, rfl⟩ := trodAll_nil r2
  obtain rfl : args = #[v0, v1, v2] := by cases args; simp_all
  obtain ⟨rfl, rfl⟩ := trodVars_none hV
  have k0 := h0
  have lt0 : ∀ x ∈ p0, x.block < W.heap.size := by obtain ⟨m, hm⟩ := k0; exact DataW.trod_lt m _ _ _ hm
  obtain ⟨a, n, cap, l, rfl, rfl, hl, hw⟩ := open_varsArg (hval 0 35 v0 rfl rfl) h0
  obtain ⟨s, rfl, rfl, rfl, hs⟩ := open_string Try.underlying9 (hval 1 9 v1 rfl rfl) h1
  obtain ⟨v, rfl, rfl, rfl, wv⟩ := open_int Try.underlying3 (hval 2 3 v2 rfl rfl) h2
  clear hA0 hval0
  refine (exactPutVar_any _ l s v W hl hw).mono fun e W' ⟨he, bel⟩ => ?_
  subst he
  exact ⟨_, rfl, _, _, _, [], _, [], hW', trodAll_mk1 (shut_bool Try.underlying4 _), trodAll_cons_mk (Below.trod laidOutV (by kernel_rfl) (of_decide_eq_true (by kernel_rfl)) k0 bel lt0) (trodAll_cons_mk (shut_string Try.underlying9 hs) (trodAll_cons_mk (shut_int Try.underlying3 wv) trodAll_mk0)), rfl, bel.frame _, fun h => by cases h⟩

theorem exactPutVar_holds : Rows.FnExactPutVarSaid :=
  OpenClaim.holds_of_wide 6 Try.f6 rfl rfl rfl rfl rfl rfl rfl ⟨rfl, rfl, rfl, rfl, rfl⟩ rfl rfl rfl rfl rfl (by kernel_rfl) Try.func6 (by kernel_rfl)
    (of_decide_eq_true (by kernel_rfl)) (by unfold Func.isWrapper; first | (rw [if_pos (by decide +kernel)]; kernel_rfl) | (rw [if_neg (by decide +kernel)]; exact ⟨rfl, rfl⟩))
    (fun os started H enc _ => liftedPutVar os started H enc)

#print axioms exactPutVar_holds
end Go.Proofs.Ytgnfiakbcogdlan
