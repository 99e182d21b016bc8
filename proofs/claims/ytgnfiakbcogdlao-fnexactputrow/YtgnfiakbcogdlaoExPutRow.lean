/- For every list of rows, every key and every value, the exact law of PutRow returns true and the list reads afterwards as it read before. -/
import Derived.Test.YtgnfiakbcogdlaoR0m
import Derived.Test.YtgnfiakbcogdlaoPutR6
import Derived.ChangeOld
namespace Go.Proofs.Ytgnfiakbcogdlao
open Go.ChangeShapes Go.WideShapes Go.ChangeAt Go.RowKit Go.Deep Go.Joins
set_option linter.unusedVariables false
set_option maxRecDepth 100000
set_option maxHeartbeats 1000000
attribute [local go_sem ↓] Go.wp_at_zero Go.wp_at_succ

/-- The box of the key. -/
def KBo (w : World) (B : Nat) (t r : Int) (x : World) : Prop := Below w.heap.size w x ∧ x.cell? ⟨B, 0, none⟩ = some (.int .i64 t) ∧ x.cell? ⟨B, 1, none⟩ = some (.int .i64 r)
theorem KBo.kept {w x y : World} {B : Nat} {t r : Int} (h : KBo w B t r x) (hb : Below x.heap.size x y) : KBo w B t r y := ⟨h.1.trans (hb.mono h.1.size), cell_stays hb h.2.1, cell_stays hb h.2.2⟩

theorem exactPutRow_any (va : Value) (l : List Rw) (t r v : Int) (w : World) {lo hi : Nat} (hl : RowsAt lo hi w va l) (hw : WfRw l) (ht : wf t) (hr : wf r) :
    Calls Try.prog 3 #[va, .agg #[.int .i64 t, .int .i64 r], .int .i64 v] w fun e w' => e = .returned (.bool true) ∧ Below w.heap.size w w' := by
  obtain ⟨a, cap, hv⟩ : ∃ a cap, va = .slice a l.length cap := by obtain ⟨a, cap, h1, _⟩ := hl; exact ⟨a, cap, h1⟩
  subst hv
  have b0 : Below w.heap.size w (w.alloc (Obj.cells #[Value.int IntKind.i64 t, Value.int IntKind.i64 r] 24)) := (Below.refl _ _).alloc (Nat.le_refl _) _
  have S0 : KBo w w.heap.size t r (w.alloc (Obj.cells #[Value.int IntKind.i64 t, Value.int IntKind.i64 r] 24)) := ⟨b0, by simp [go_sem], by simp [go_sem]⟩
  go_enter Try.func3, Try.ntmps3
  go_wp2_with fail
  refine (szRowS_any _ l _ (hl.stays b0) _ (by omega) (by omega)).mono ?_
  rintro e w1 ⟨q, rfl, hq1, hq2, rfl⟩
  by_cases hneg : q < 0
  · go_wp2
    go_ret
    exact ⟨rfl, b0⟩
  have hn := hq2 (by omega)
  clear hq2
  have S1 := S0.kept (Below.refl _ _).drew
  go_wp2_with fail
  go_region_held3 (fun x => Below w.heap.size w x ∧ x.cell? ⟨w.heap.size, 0, none⟩ = some (.int .i64 t) ∧ x.cell? ⟨w.heap.size, 1, none⟩ = some (.int .i64 r))
    (first | exact hK7 | exact hK6 | exact hK5 | exact S1)
    (first
      | (go_at_call 10; refine Calls.mono (toRowS_ex _ l _ (hl.stays (id (by first | exact hK6.1 | exact S1.1))) hn) ?_; rintro e wa ⟨Ba, rfl, hoa, hBa, hba⟩; have hK5 : KBo w w.heap.size t r wa := KBo.kept (by first | exact hK6 | exact S1) hba)
      | (go_at_call 11; refine (toKey_any _ _ _).mono ?_; rintro e wb ⟨rfl, hbb⟩; have hK6 : KBo w w.heap.size t r wb := KBo.kept (by first | exact hK5 | exact S1) hbb)
      | (go_at_call 9; refine Calls.mono (specPutRow_any _ l t r v _ (by first | exact hoa.rows (hi := Ba + 1) (Nat.le_refl _) (Nat.lt_succ_self _) hn | exact (hoa.of_block (hbb.block _ hoa.lt)).rows (hi := Ba + 1) (Nat.le_refl _) (Nat.lt_succ_self _) hn) hw hn (by first | exact hoa.lt | exact (hoa.of_block (hbb.block _ hoa.lt)).lt) ht hr) ?_; rintro e wc ⟨⟨vc, rc, rfl, hansc, hlenc, hrc⟩, hbc⟩; have hK7 : KBo w w.heap.size t r wc := KBo.kept (by first | exact hK6 | exact hK5) hbc))
  rename_i hHx
  have hlen : rc.length ≤ 1048580 := by omega
  have hzc := hK7.1.size
  have hzw : w.heap.size < wc.heap.size := cell_lt hK7.2.1
  have hlt3 : ∀ k, (∃ cap, vc = .slice (some ⟨k, 0, none⟩) rc.length cap) → True := fun _ _ => trivial
  clear hHx hoa hba hbb hbc hK5 hK6 S1 S0 b0 hlt3 hBa
  go_wp2_with fail
  refine Calls.mono (toRowS_ex _ l _ (hl.stays hK7.1) hn) ?_
  rintro e w4 ⟨B4, rfl, ho4, hB4, hb4⟩
  have hK8 := hK7.kept hb4
  obtain ⟨b4, x4, y4⟩ := hK8
  have hz34 := hb4.size
  clear hK7
  go_wp2_with fail
  refine (toKey_any _ _ _).mono ?_
  rintro e w4' ⟨rfl, hb4'⟩
  have b4' := b4.trans (hb4'.mono b4.size)
  have ho4' := ho4.of_block (hb4'.block _ ho4.lt)
  have x5 := cell_stays hb4' x4
  have y5 := cell_stays hb4' y4
  have hz44 := hb4'.size
  have t4' := hb4.trans (hb4'.mono hb4.size)
  have hB4' : B4 < w4.heap.size := ho4.lt
  clear x4 y4 b4 ho4 hb4' hb4
  go_wp2_with fail
  refine (implPutRow_any _ l t r v _ (ho4'.rows (Nat.le_refl _) (Nat.lt_succ_self _) hn) hw hn ht hr).mono ?_
  rintro e w5 ⟨⟨v5, rs', rfl, hans', hlen', hr5⟩, hb5⟩
  obtain rfl : rs' = rc := put_one hansc hans'
  have b5 := b4'.trans (hb5.mono b4'.size)
  have t5 := t4'.trans (hb5.mono t4'.size)
  have ho5 := ho4'.of_block (hb5.block _ ho4'.lt)
  have hz45 := hb5.size
  have xx5 := cell_stays hb5 x5
  have yy5 := cell_stays hb5 y5
  clear hans' ho4' hb5 b4' t4' x5 y5 hlen'
  go_wp2_with fail
  refine (eqRowS_same _ _ rs' _ hr5 (hrc.stays t5) hlen).mono ?_
  rintro e w6 ⟨rfl, hb6⟩
  have b6 := b5.trans (hb6.mono b5.size)
  have t6 := t5.trans (hb6.mono t5.size)
  have ho6 := ho5.of_block (hb6.block _ ho5.lt)
  have hr6 := hr5.stays hb6
  have hz6 := hb6.size
  have x6 := cell_stays hb6 xx5
  have y6 := cell_stays hb6 yy5
  clear b5 ho5 hr5 hb6 t5 xx5 yy5
  go_wp2_with fail
  refine Calls.mono (toRowS_ex _ l _ (hl.stays b6) hn) ?_
  rintro e w7 ⟨B7, rfl, ho7, hB7, hb7⟩
  have b7 := b6.trans (hb7.mono b6.size)
  have t7 := t6.trans (hb7.mono t6.size)
  have ho7' := ho6.of_block (hb7.block _ ho6.lt)
  have hr7 := hr6.stays hb7
  have hz7 := hb7.size
  have x7 := cell_stays hb7 x6
  have y7 := cell_stays hb7 y6
  clear ho6 hr6 hb7 b6 t6 x6 y6
  go_wp2_with fail
  refine (eqRowS_at _ _ l _ (ho7'.rows (Nat.le_refl _) (Nat.lt_succ_self _) hn) (ho7.rows (Nat.le_refl _) (Nat.lt_succ_self _) hn)).mono ?_
  rintro e w8 ⟨rfl, hb8⟩
  have b8 := b7.trans (hb8.mono b7.size)
  have t8 := t7.trans (hb8.mono t7.size)
  have ho8 := ho7'.of_block (hb8.block _ ho7'.lt)
  have hr8 := hr7.stays hb8
  have hz8 := hb8.size
  have x8 := cell_stays hb8 x7
  have y8 := cell_stays hb8 y7
  clear ho7 ho7' hr7 hb8 b7 t7 x7 y7
  go_wp2_with fail
  refine (markRowS_at B4 l.length l 1 _ ho8 (by omega) (by omega)).mono ?_
  rintro e w9 ⟨rfl, hw9⟩
  have u9 : Below wc.heap.size w8 w9 := hw9.below fun k hk => by omega
  have b9 := b8.trans (u9.mono hzc)
  have t9 := t8.trans u9
  have hr9 : OwnR w4'.heap.size w9 v5 rs' := hr8.keep fun k h1 h2 => hw9.block k (by omega)
  have x9 : w9.cell? ⟨w.heap.size, 0, none⟩ = some (.int .i64 t) := by rw [u9.cell (by show w.heap.size < _; omega)]; exact x8
  have y9 : w9.cell? ⟨w.heap.size, 1, none⟩ = some (.int .i64 r) := by rw [u9.cell (by show w.heap.size < _; omega)]; exact y8
  clear ho8 hr8 u9 hw9 b8 t8 x8 y8
  go_wp2_with fail
  refine (eqRowS_same _ _ rs' _ hr9 (hrc.stays t9) hlen).mono ?_
  rintro e w10 ⟨rfl, hb10⟩
  have b10 := b9.trans (hb10.mono b9.size)
  have t10 := t9.trans (hb10.mono t9.size)
  have hr10 := hr9.stays hb10
  have x10 := cell_stays hb10 x9
  have y10 := cell_stays hb10 y9
  clear b9 t9 hr9 hb10 x9 y9
  go_wp2_with fail
  refine (markRowS_any _ rs' 1 _ hr10 hlen (by omega)).mono ?_
  rintro e w11 ⟨rfl, hw11, hm11⟩
  have u11 : Below w4'.heap.size w10 w11 := hw11.below fun k hk => hk
  have b11 := b10.trans (u11.mono (by omega))
  have t11 := t10.trans (u11.mono (by omega))
  have x11 : w11.cell? ⟨w.heap.size, 0, none⟩ = some (.int .i64 t) := by rw [u11.cell (by show w.heap.size < _; omega)]; exact x10
  have y11 : w11.cell? ⟨w.heap.size, 1, none⟩ = some (.int .i64 r) := by rw [u11.cell (by show w.heap.size < _; omega)]; exact y10
  clear b10 t10 hr10 hw11 u11 x10 y10
  go_wp2_with fail
  refine (heldRowS_any _ rs'.length 1 _ hm11 hlen (by omega)).mono ?_
  rintro e w12 ⟨rfl, rfl⟩
  have S2 : KBo w12 w.heap.size t r w12.drew := ⟨(Below.refl _ _).drew, x11, y11⟩
  go_wp2_with fail
  go_region_held3 (fun x => Below w12.heap.size w12 x ∧ x.cell? ⟨w.heap.size, 0, none⟩ = some (.int .i64 t) ∧ x.cell? ⟨w.heap.size, 1, none⟩ = some (.int .i64 r))
    (first | exact hK17 | exact hK16 | exact hK15 | exact S2)
    (first
      | (go_at_call 10; refine Calls.mono (toRowS_ex _ l _ (hl.stays (b11.trans (Below.mono (by first | exact hK16.1 | exact S2.1) b11.size))) hn) ?_; rintro e wd ⟨Bd, rfl, hod, hBd, hbd⟩; have hK15 : KBo w12 w.heap.size t r wd := KBo.kept (by first | exact hK16 | exact S2) hbd)
      | (go_at_call 11; refine (toKey_any _ _ _).mono ?_; rintro e wf2 ⟨rfl, hbf⟩; have hK16 : KBo w12 w.heap.size t r wf2 := KBo.kept (by first | exact hK15 | exact S2) hbf)
      | (go_at_call 12; refine Calls.mono (implPutRow_any _ l t r v _ (by first | exact hod.rows (hi := Bd + 1) (Nat.le_refl _) (Nat.lt_succ_self _) hn | exact (hod.of_block (hbf.block _ hod.lt)).rows (hi := Bd + 1) (Nat.le_refl _) (Nat.lt_succ_self _) hn) hw hn ht hr) ?_; rintro e w14 ⟨⟨v14, rs2, rfl, hans2, hlen2, hr14⟩, hb14⟩; have hK17 : KBo w12 w.heap.size t r w14 := KBo.kept (by first | exact hK16 | exact hK15) hb14))
  rename_i hHy
  obtain rfl : rs2 = rs' := put_one hansc hans2
  have b14 := b11.trans (hK17.1.mono b11.size)
  have t14 := t11.trans (hK17.1.mono t11.size)
  have hm14 := hm11.keep (base := 0) hK17.1
  clear b11 t11 hm11 hb14 hod hans2 hK17 hK16 hK15 S2 hHy hbf hbd hBd
  go_wp2_with fail
  refine (eqRowS_same _ _ rs2 _ hr14 (hrc.stays t14) hlen).mono ?_
  rintro e w15 ⟨rfl, hb15⟩
  have b15 := b14.trans (hb15.mono b14.size)
  have hm15 := hm14.keep (base := 0) hb15
  clear hr14 hrc t14 b14 hm14 hb15
  go_wp2_with fail
  refine (heldRowS_any _ rs2.length 1 _ hm15 hlen (by omega)).mono ?_
  rintro e w16 ⟨rfl, rfl⟩
  go_wp2
  go_ret
  exact ⟨rfl, b15⟩

theorem liftedPutRow (os : Os) (started : os.Started) (H : Type) (enc : TypeId × Value → H) :
    ReturnsInHanded {} Try.checked os 3 .any (Rows.fnExactPutRowSpec.pre6 enc Try.prog Try.f3 Rows.fnExactPutRowRow.domain false) (Rows.fnExactPutRowSpec.post enc Try.prog Try.f3 false true false false) := by
  refine returnsInHanded_of_change (C := Try.checked) ownKR started (by kernel_rfl) Try.func3
    (ChangeSpec.witness6 (enc := enc) (C := Try.checked) false ⟨#[], #[.slice none 0 0, .agg #[.int .i64 0, .int .i64 0], .int .i64 0], []⟩ 8 (by kernel_rfl) (by kernel_rfl) (by kernel_rfl) (by kernel_rfl)) ?_
  intro W base args ds gs before hval0 hW hcnd _
  have hval : ∀ (j : Nat) t v, Try.f3.params[j]? = some t → args[j]? = some v → Value.okWide Try.prog W .any base t v := hval0
  have hW' := hW
  obtain ⟨p, q, hA0, hV, rfl, hfz, hnd⟩ := hW
  have hA : DataW.TrodAll enc Try.prog W 0 (fun _ => true) true Try.f3.params.toList args.toList ds p := hA0
  rw [Try.params3] at hA hval
  obtain ⟨v0, vs0, d0, ds0, p0, q0, hargs, rfl, rfl, h0, r0⟩ := trodAll_cons hA
  obtain ⟨v1, vs1, d1, ds1, p1, q1, rfl, rfl, rfl, h1, r1⟩ := trodAll_cons r0
  obtain ⟨v2, vs2, d2, ds2, p2, q2, rfl, rfl, rfl, h2, r2⟩ := trodAll_cons r1
  obtain ⟨rfl, rfl, rfl⟩ := trodAll_nil r2
  obtain rfl : args = #[v0, v1, v2] := by cases args; simp_all
  obtain ⟨rfl, rfl⟩ := trodVars_none hV
  have k0 := h0
  have lt0 : ∀ x ∈ p0, x.block < W.heap.size := by obtain ⟨m, hm⟩ := k0; exact DataW.trod_lt m _ _ _ hm
  obtain ⟨a, n, cap, l, rfl, rfl, hl, hw⟩ := open_rowsArg (hval 0 22 v0 rfl rfl) h0
  have k1 := h1
  have lt1 : ∀ x ∈ p1, x.block < W.heap.size := by obtain ⟨m, hm⟩ := k1; exact DataW.trod_lt m _ _ _ hm
  obtain ⟨t, r, rfl, wt, wr⟩ := open_key (hval 1 24 v1 rfl rfl) h1
  obtain ⟨v, rfl, rfl, rfl, wv⟩ := open_int Try.underlying3 (hval 2 3 v2 rfl rfl) h2
  clear hA0 hval0
  refine (exactPutRow_any _ l t r v W hl hw wt wr).mono fun e W' ⟨he, bel⟩ => ?_
  subst he
  exact ⟨_, rfl, _, _, _, [], _, [], hW', trodAll_mk1 (shut_bool Try.underlying4 _), trodAll_cons_mk (Below.trod laidOutR (by kernel_rfl) (of_decide_eq_true (by kernel_rfl)) k0 bel lt0) (trodAll_cons_mk (Below.trod laidOutR (by kernel_rfl) (of_decide_eq_true (by kernel_rfl)) k1 bel lt1) (trodAll_cons_mk (shut_int Try.underlying3 wv) trodAll_mk0)), rfl, bel.frame _, fun h => by cases h⟩

theorem exactPutRow_holds : Rows.FnExactPutRowSaid :=
  OpenClaim.holds_of_wide 3 Try.f3 rfl rfl rfl rfl rfl rfl rfl ⟨rfl, rfl, rfl, rfl, rfl⟩ rfl rfl rfl rfl rfl (by kernel_rfl) Try.func3 (by kernel_rfl)
    (of_decide_eq_true (by kernel_rfl)) (by unfold Func.isWrapper; first | (rw [if_pos (by decide +kernel)]; kernel_rfl) | (rw [if_neg (by decide +kernel)]; exact ⟨rfl, rfl⟩))
    (fun os started H enc _ => liftedPutRow os started H enc)

#print axioms exactPutRow_holds
end Go.Proofs.Ytgnfiakbcogdlao
