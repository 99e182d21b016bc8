/- For every list of rows and every key, the exact law of RowOf returns true and the list reads afterwards as it read before. -/
import Derived.Test.YtgnfiakbcogdlaoR2v
import Derived.ChangeOld
namespace Go.Proofs.Ytgnfiakbcogdlao
open Go.ChangeShapes Go.WideShapes Go.ChangeAt Go.RowKit Go.Deep Go.Joins
set_option linter.unusedVariables false
set_option maxRecDepth 100000
set_option maxHeartbeats 1000000
attribute [local go_sem ↓] Go.wp_at_zero Go.wp_at_succ

/-- The box of the key. -/
def KBox (w : World) (t r : Int) (x : World) : Prop := Below w.heap.size w x ∧ x.cell? ⟨w.heap.size, 0, none⟩ = some (.int .i64 t) ∧ x.cell? ⟨w.heap.size, 1, none⟩ = some (.int .i64 r)
theorem KBox.kept {w x y : World} {t r : Int} (h : KBox w t r x) (hb : Below x.heap.size x y) : KBox w t r y := ⟨h.1.trans (hb.mono h.1.size), cell_stays hb h.2.1, cell_stays hb h.2.2⟩

theorem exactRowOf_any (v : Value) (l : List Rw) (t r : Int) (w : World) {lo hi : Nat} (hl : RowsAt lo hi w v l) (hw : WfRw l) :
    Calls Try.prog 4 #[v, .agg #[.int .i64 t, .int .i64 r]] w fun e w' => e = .returned (.bool true) ∧ Below w.heap.size w w' := by
  obtain ⟨a, cap, hv⟩ : ∃ a cap, v = .slice a l.length cap := by obtain ⟨a, cap, h1, _⟩ := hl; exact ⟨a, cap, h1⟩
  subst hv
  have b0 : Below w.heap.size w (w.alloc (Obj.cells #[Value.int IntKind.i64 t, Value.int IntKind.i64 r] 24)) := (Below.refl _ _).alloc (Nat.le_refl _) _
  have S0 : KBox w t r (w.alloc (Obj.cells #[Value.int IntKind.i64 t, Value.int IntKind.i64 r] 24)) := ⟨b0, by simp [go_sem], by simp [go_sem]⟩
  go_enter Try.func4, Try.ntmps4
  go_wp2_with fail
  refine (szRowS_any _ l _ (hl.stays b0) _ (by omega) (by omega)).mono ?_
  rintro e w1 ⟨q, rfl, hq1, hq2, rfl⟩
  by_cases hneg : q < 0
  · go_wp2
    go_ret
    exact ⟨rfl, b0⟩
  have hn := hq2 (by omega)
  clear hq2
  have S1 := S0.kept (Below.refl _ _).drew
  go_wp2_with fail
  go_region_held3 (fun x => Below w.heap.size w x ∧ x.cell? ⟨w.heap.size, 0, none⟩ = some (.int .i64 t) ∧ x.cell? ⟨w.heap.size, 1, none⟩ = some (.int .i64 r))
    (first | exact hK7 | exact hK6 | exact hK5 | exact S1)
    (first
      | (go_at_call 10; refine Calls.mono (toRowS_ex _ l _ (hl.stays (by first | exact hK6.1 | exact S1.1)) hn) ?_; rintro e w5 ⟨B5, rfl, ho5, hB5, hb5⟩; have hK5 : KBox w t r w5 := KBox.kept (by first | exact hK6 | exact S1) hb5)
      | (go_at_call 11; refine (toKey_any _ _ _).mono ?_; rintro e w6 ⟨rfl, hb6⟩; have hK6 : KBox w t r w6 := KBox.kept (by first | exact hK5 | exact S1) hb6)
      | (go_at_call 16; refine Calls.mono (specRowOf_any _ l t r _ (by first | exact ho5.rows (Nat.le_refl _) (Nat.lt_succ_self _) hn | exact (ho5.of_block (hb6.block _ ho5.lt)).rows (Nat.le_refl _) (Nat.lt_succ_self _) hn)) ?_; rintro e w7 ⟨rfl, hb7⟩; have hK7 : KBox w t r w7 := KBox.kept (by first | exact hK6 | exact hK5) hb7))
  rename_i hHx
  clear hHx ho5 hb5 hb6 hb7 hK5 hK6 S1 S0 b0
  go_wp2_with fail
  refine Calls.mono (toRowS_ex _ l _ (hl.stays hK7.1) hn) ?_
  rintro e w8 ⟨B8, rfl, ho8, hB8, hb8⟩
  have hK8 := hK7.kept hb8
  obtain ⟨b8, x8, y8⟩ := hK8
  clear hK7 hb8
  go_wp2_with fail
  refine (toKey_any _ _ _).mono ?_
  rintro e w9 ⟨rfl, hb9⟩
  have b9 := b8.trans (hb9.mono b8.size)
  have ho9 := ho8.of_block (hb9.block _ ho8.lt)
  clear x8 y8 b8 ho8 hb9
  go_wp2_with fail
  refine (implRowOf_any _ l t r _ (ho9.rows (Nat.le_refl _) (Nat.lt_succ_self _) hn)).mono ?_
  rintro e w10 ⟨rfl, hb10⟩
  have b10 := b9.trans (hb10.mono b9.size)
  have ho10 := ho9.of_block (hb10.block _ ho9.lt)
  clear ho9 hb10 b9
  go_wp2_with fail
  refine Calls.mono (toRowS_ex _ l _ (hl.stays b10) hn) ?_
  rintro e w11 ⟨B11, rfl, ho11, hB11, hb11⟩
  have b11 := b10.trans (hb11.mono b10.size)
  go_wp2_with fail
  refine (eqRowS_at _ _ l _ ((ho10.of_block (hb11.block _ ho10.lt)).rows (Nat.le_refl _) (Nat.lt_succ_self _) hn) (ho11.rows (Nat.le_refl _) (Nat.lt_succ_self _) hn)).mono ?_
  rintro e w12 ⟨rfl, hb12⟩
  go_wp2
  go_ret
  exact ⟨rfl, b11.trans (hb12.mono b11.size)⟩

theorem liftedRowOf (os : Os) (started : os.Started) (H : Type) (enc : TypeId × Value → H) :
    ReturnsInHanded {} Try.checked os 4 .any (Rows.fnExactRowOfSpec.pre6 enc Try.prog Try.f4 Rows.fnExactRowOfRow.domain false) (Rows.fnExactRowOfSpec.post enc Try.prog Try.f4 false true false false) := by
  refine returnsInHanded_of_change (C := Try.checked) ownKR started (by kernel_rfl) Try.func4
    (ChangeSpec.witness6 (enc := enc) (C := Try.checked) false ⟨#[], #[.slice none 0 0, .agg #[.int .i64 0, .int .i64 0]], []⟩ 8 (by kernel_rfl) (by kernel_rfl) (by kernel_rfl) (by kernel_rfl)) ?_
  intro W base args ds gs before hval0 hW hcnd _
  have hval : ∀ (j : Nat) t v, Try.f4.params[j]? = some t → args[j]? = some v → Value.okWide Try.prog W .any base t v := hval0
  have hW' := hW
  obtain ⟨p, q, hA0, hV, rfl, hfz, hnd⟩ := hW
  have hA : DataW.TrodAll enc Try.prog W 0 (fun _ => true) true Try.f4.params.toList args.toList ds p := hA0
  rw [Try.params4] at hA hval
  obtain ⟨v0, vs0, d0, ds0, p0, q0, hargs, rfl, rfl, h0, r0⟩ := trodAll_cons hA
  obtain ⟨v1, vs1, d1, ds1, p1, q1, rfl, rfl, rfl, h1, r1⟩ := trodAll_cons r0
  obtain ⟨rfl, rfl, rfl⟩ := trodAll_nil r1
  obtain rfl : args = #[v0, v1] := by cases args; simp_all
  obtain ⟨rfl, rfl⟩ := trodVars_none hV
  have k0 := h0
  have lt0 : ∀ x ∈ p0, x.block < W.heap.size := by obtain ⟨m, hm⟩ := k0; exact DataW.trod_lt m _ _ _ hm
  obtain ⟨a, n, cap, l, rfl, rfl, hl, hw⟩ := open_rowsArg (hval 0 22 v0 rfl rfl) h0
  have k1 := h1
  have lt1 : ∀ x ∈ p1, x.block < W.heap.size := by obtain ⟨m, hm⟩ := k1; exact DataW.trod_lt m _ _ _ hm
  obtain ⟨t, r, rfl, _, _⟩ := open_key (hval 1 24 v1 rfl rfl) h1
  clear hA0 hval0
  refine (exactRowOf_any _ l t r W hl hw).mono fun e W' ⟨he, bel⟩ => ?_
  subst he
  exact ⟨_, rfl, _, _, _, [], _, [], hW', trodAll_mk1 (shut_bool Try.underlying4 _), trodAll_cons_mk (Below.trod laidOutR (by kernel_rfl) (of_decide_eq_true (by kernel_rfl)) k0 bel lt0) (trodAll_cons_mk (Below.trod laidOutR (by kernel_rfl) (of_decide_eq_true (by kernel_rfl)) k1 bel lt1) trodAll_mk0), rfl, bel.frame _, fun h => by cases h⟩

theorem exactRowOf_holds : Rows.FnExactRowOfSaid :=
  OpenClaim.holds_of_wide 4 Try.f4 rfl rfl rfl rfl rfl rfl rfl ⟨rfl, rfl, rfl, rfl, rfl⟩ rfl rfl rfl rfl rfl (by kernel_rfl) Try.func4 (by kernel_rfl)
    (of_decide_eq_true (by kernel_rfl)) (by unfold Func.isWrapper; first | (rw [if_pos (by decide +kernel)]; kernel_rfl) | (rw [if_neg (by decide +kernel)]; exact ⟨rfl, rfl⟩))
    (fun os started H enc _ => liftedRowOf os started H enc)

#print axioms exactRowOf_holds
end Go.Proofs.Ytgnfiakbcogdlao
