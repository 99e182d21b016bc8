/- For every store, the exact law of StoreOk returns true and the store reads afterwards as it read before. -/
import Derived.Test.YtgohdlgnmlekdaiSpecOk
import Derived.Test.YtgohdlgnmlekdaiCopy
import Derived.Test.YtgohdlgnmlekdaiOpen
import Derived.ChangeOld
namespace Go.Proofs.Ytgohdlgnmlekdai
open Go.ChangeShapes Go.WideShapes Go.ChangeAt Go.RowKit Go.Sort
set_option linter.unusedVariables false
attribute [local go_sem ↓] Go.wp_at_zero Go.wp_at_succ

theorem says_same {p : Prop} {q r : Bool} (h : q = true ↔ p) (h' : r = true ↔ p) : q = r := by
  cases q <;> cases r <;> simp_all

theorem two_held {w x y : World} {a1 a2 : Addr} {v1 v2 : Value} (h : Below w.heap.size w x ∧ x.cell? a1 = some v1 ∧ x.cell? a2 = some v2) (hb : Below x.heap.size x y) :
    Below w.heap.size w y ∧ y.cell? a1 = some v1 ∧ y.cell? a2 = some v2 :=
  ⟨h.1.trans (hb.mono h.1.size), cell_stays hb h.2.1, cell_stays hb h.2.2⟩

set_option maxHeartbeats 1000000 in
theorem exactStoreOk_any (v : Value) (l : List Ch) (w : World) {lo hi : Nat} (h : ChainsAt lo hi w v l) :
    Calls Try.prog 4 #[.agg #[v]] w fun e w' => e = .returned (.bool true) ∧ Below w.heap.size w w' := by
  obtain ⟨a, cap, hv⟩ : ∃ a cap, v = .slice a l.length cap := by obtain ⟨a, cap, h1, _⟩ := h; exact ⟨a, cap, h1⟩
  subst hv
  have b0 : Below w.heap.size w (w.alloc (Obj.cells #[Value.slice a l.length cap] 30)) := (Below.refl _ _).alloc (Nat.le_refl _) _
  have p0 : (w.alloc (Obj.cells #[Value.slice a l.length cap] 30)).cell? ⟨w.heap.size, 0, none⟩ = some (.slice a l.length cap) := by simp
  go_enter Try.func4, Try.ntmps4
  go_wp2_with fail
  refine (szStore_any _ l _ (h.stays b0) _ (by omega) (by omega)).mono ?_
  rintro e w1 ⟨q, rfl, hq1, hq2, hb1⟩
  have b1 := b0.trans (hb1.mono b0.size)
  have p1 := cell_stays hb1 p0
  clear b0 p0 hb1
  by_cases hneg : q < 0
  · go_wp2
    go_ret
    exact ⟨rfl, b1⟩
  have hs := hq2 (by omega)
  clear hq2
  go_wp2_with fail
  refine (toStore_any _ l _ (h.stays b1) hs).mono ?_
  rintro e w2 ⟨a2, c2, rfl, hv2, hb2⟩
  have b2 := b1.trans (hb2.mono b1.size)
  have p2 := cell_stays hb2 p1
  clear b1 p1 hb2
  go_wp2_with fail
  refine (specStoreOk_any _ l _ hv2).mono ?_
  rintro e w3 ⟨⟨q3, rfl, hq3⟩, hb3⟩
  have b3 := b2.trans (hb3.mono b2.size)
  have p3 := cell_stays hb3 p2
  have HQ : Hid (q3 = true ↔ storeOk l) := hq3
  clear b2 p2 hb3 hv2 hq3
  go_wp2_with fail
  refine (toStore_any _ l _ (h.stays b3) hs).mono ?_
  rintro e w4 ⟨a4, c4, rfl, hv4, hb4⟩
  have b4 := b3.trans (hb4.mono b3.size)
  have p4 := cell_stays hb4 p3
  clear b3 p3 hb4
  go_wp2_with fail
  have hb5 : Below w4.heap.size w4 (w4.alloc (Obj.cells #[Value.slice a4 l.length c4] 35)) := (Below.refl _ _).alloc (Nat.le_refl _) _
  refine (implStoreOk_any _ l _ (hv4.stays hb5)).mono ?_
  rintro e w6 ⟨⟨q6, rfl, hq6⟩, hb6⟩
  obtain rfl := says_same hq6 HQ.out
  have b6 := b4.trans ((hb5.trans (hb6.mono hb5.size)).mono b4.size)
  have p6 := cell_stays hb6 (cell_stays hb5 p4)
  have x6 : w6.cell? ⟨w4.heap.size, 0, none⟩ = some (.slice a4 l.length c4) := cell_stays hb6 (by simp)
  have hv6 := hv4.stays (hb5.trans (hb6.mono hb5.size))
  clear b4 p4 hb5 hb6 hq6 hv4
  go_wp2_with fail
  go_region_held3 (fun x => Below w.heap.size w x ∧ x.cell? ⟨w.heap.size, 0, none⟩ = some (.slice a l.length cap) ∧ x.cell? ⟨w4.heap.size, 0, none⟩ = some (.slice a4 l.length c4))
    (first | exact two_held (by assumption) hb7 | exact ⟨b6.drew, p6, x6⟩)
    (first | (go_at_call 11; refine (toStore_any _ l _ (h.stays b6.drew) hs).mono ?_; rintro e w7 ⟨a7, c7, rfl, hv7, hb7⟩; have hv8 := hv6.stays ((Below.refl _ _).drew.trans hb7)) | (go_at_call 13; refine (eqStore_same _ _ l _ hv8 hv7).mono ?_; rintro e w8 ⟨rfl, hb7⟩))
  rename_i hH
  go_wp2
  go_ret
  exact ⟨rfl, hH.1⟩

/-! ### The row -/

theorem own : ownKnob Try.prog.godebug = none := by kernel_rfl
theorem laidOut : laidOutB Try.prog = true := by kernel_rfl

set_option maxRecDepth 100000 in
theorem liftedStoreOk (os : Os) (started : os.Started) (H : Type) (enc : TypeId × Value → H) :
    ReturnsInHanded {} Try.checked os 4 .any (Rows.fnExactStoreOkSpec.pre6 enc Try.prog Try.f4 Rows.fnExactStoreOkRow.domain false) (Rows.fnExactStoreOkSpec.post enc Try.prog Try.f4 false true false false) := by
  refine returnsInHanded_of_change (C := Try.checked) own started (by kernel_rfl) Try.func4
    (ChangeSpec.witness6 (enc := enc) (C := Try.checked) false ⟨#[], #[.agg #[.slice none 0 0]], []⟩ 8 (by kernel_rfl) (by kernel_rfl) (by kernel_rfl) (by kernel_rfl)) ?_
  intro W base args ds gs before hval0 hW hcnd _
  have hval : ∀ (j : Nat) t v, Try.f4.params[j]? = some t → args[j]? = some v → Value.okWide Try.prog W .any base t v := hval0
  have hW' := hW
  obtain ⟨p, q, hA0, hV, rfl, hfz, hnd⟩ := hW
  have hA : DataW.TrodAll enc Try.prog W 0 (fun _ => true) true Try.f4.params.toList args.toList ds p := hA0
  rw [Try.params4] at hA hval
  obtain ⟨v0, vs0, d0, ds0, p0, q0, hargs, rfl, rfl, h0, r0⟩ := trodAll_cons hA
  obtain ⟨rfl, rfl, rfl⟩ := trodAll_nil r0
  obtain rfl : args = #[v0] := by cases args; simp_all
  obtain ⟨rfl, rfl⟩ := trodVars_none hV
  have k0 := h0
  have lt0 : ∀ x ∈ p0, x.block < W.heap.size := by obtain ⟨m, hm⟩ := k0; exact DataW.trod_lt m _ _ _ hm
  obtain ⟨v, l, rfl, hl, _⟩ := open_store (hval 0 30 v0 rfl rfl) h0
  clear hA0 hval0
  refine (exactStoreOk_any v l W hl).mono fun e W' ⟨he, bel⟩ => ?_
  subst he
  exact ⟨_, rfl, _, _, _, [], _, [], hW', trodAll_mk1 (shut_bool Try.underlying4 _), trodAll_cons_mk (Below.trod laidOut (by kernel_rfl) (of_decide_eq_true (by kernel_rfl)) k0 bel lt0) trodAll_mk0, rfl, bel.frame _, fun h => by cases h⟩

theorem exactStoreOk_holds : Rows.FnExactStoreOkSaid :=
  OpenClaim.holds_of_wide 4 Try.f4 rfl rfl rfl rfl rfl rfl rfl ⟨rfl, rfl, rfl, rfl, rfl⟩ rfl rfl rfl rfl rfl (by kernel_rfl) Try.func4 (by kernel_rfl)
    (of_decide_eq_true (by kernel_rfl)) (by unfold Func.isWrapper; first | (rw [if_pos (by decide +kernel)]; kernel_rfl) | (rw [if_neg (by decide +kernel)]; exact ⟨rfl, rfl⟩))
    (fun os started H enc _ => liftedStoreOk os started H enc)

#print axioms exactStoreOk_holds
end Go.Proofs.Ytgohdlgnmlekdai
