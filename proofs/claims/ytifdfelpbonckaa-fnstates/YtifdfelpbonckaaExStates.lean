/- For every code, the law FnStates returns true and the code reads afterwards as it read before. -/
import Derived.Test.YtifdfelpbonckaaStRows
import Derived.Test.YtifdfelpbonckaaPruneP
import Derived.Test.YtifdfelpbonckaaOpenCodeS
namespace Go.Proofs.Ytifdfelpbonckaa
open Go.ChangeShapes Go.WideShapes Go.ChangeAt Go.RowKit Go.Sort Go.Deep Go.Joins
set_option linter.unusedVariables false
set_option maxRecDepth 100000
attribute [local go_sem ↓] Go.wp_at_zero Go.wp_at_succ

theorem box2 (w : World) (v : Value) (t r : Int) : Below w.heap.size w ((w.alloc (Obj.cells #[v] 25)).alloc (Obj.cells #[.int .i64 t, .int .i64 r] 36)) := ((Below.refl _ _).alloc (Nat.le_refl _) _).alloc (by simp) _

set_option maxHeartbeats 2000000 in
theorem fnStates_any (a : Option Addr) (n cap : Nat) (w : World) (hc : BytesIn w a n) :
    Calls Try.prog 5 #[.slice a n cap] w fun e w' => e = .returned (.bool true) ∧ Below w.heap.size w w' := by
  go_enter Try.func5, Try.ntmps5
  go_wp2_with fail
  refine (drawReadAt_any a n cap _ hc).mono ?_
  rintro e w1 ⟨⟨v, l, t, r, h, rfl, hD, wt, wr⟩, b1⟩
  obtain ⟨hC, hn, hvn, hwf, _⟩ := hD
  obtain ⟨av, cv, rfl⟩ : ∃ av cv, v = .slice av l.length cv := by obtain ⟨av, cv, h1, _⟩ := hC; exact ⟨av, cv, h1⟩
  have hA := box2 w1 (.slice av l.length cv) t r
  have b2 := b1.trans (hA.mono b1.size)
  have p0 : ((w1.alloc (Obj.cells #[.slice av l.length cv] 25)).alloc (Obj.cells #[.int .i64 t, .int .i64 r] 36)).cell? ⟨w1.heap.size, 0, none⟩ = some (.slice av l.length cv) := by simp [go_sem]
  have p1 : ((w1.alloc (Obj.cells #[.slice av l.length cv] 25)).alloc (Obj.cells #[.int .i64 t, .int .i64 r] 36)).cell? ⟨w1.heap.size + 1, 0, none⟩ = some (.int .i64 t) := by simp [go_sem]
  have p2 : ((w1.alloc (Obj.cells #[.slice av l.length cv] 25)).alloc (Obj.cells #[.int .i64 t, .int .i64 r] 36)).cell? ⟨w1.heap.size + 1, 1, none⟩ = some (.int .i64 r) := by simp [go_sem]
  replace hC := hC.stays hA
  have HW : Hid (WfCh l ∧ wf t ∧ wf r) := ⟨hwf, wt, wr⟩
  clear hwf wt wr
  go_wp2_with fail
  refine (implReadAt_any _ l t r h _ hC HW.out.1 HW.out.2.1 HW.out.2.2 (by omega)).mono ?_
  rintro e w3 ⟨q, rfl, hq, hb3⟩
  have b3 := b2.trans (hb3.mono b2.size)
  replace p0 := cell_stays hb3 p0
  replace p1 := cell_stays hb3 p1
  replace p2 := cell_stays hb3 p2
  replace hC := hC.stays hb3
  clear hb3 b2 hA b1
  go_wp2_with fail
  refine (specReadAt_any _ l t r h _ hC).mono ?_
  rintro e w4 ⟨q', rfl, hq', hb4⟩
  obtain rfl := hq.one' hq'
  have b4 := b3.trans (hb4.mono b3.size)
  replace p0 := cell_stays hb4 p0
  replace p1 := cell_stays hb4 p1
  replace p2 := cell_stays hb4 p2
  replace hC := hC.stays hb4
  clear hb4 b3 hq'
  obtain ⟨qv, qh⟩ := q
  go_wp2_with fail
  refine (implStateAt_any _ l h _ hC).mono ?_
  rintro e w5 ⟨rs, rv, rfl, hrs, hown, hb5⟩
  have b5 := b4.trans (hb5.mono b4.size)
  replace p1 := cell_stays hb5 p1
  replace p2 := cell_stays hb5 p2
  have hrl := hrs.len
  have hR := hown.rows (by omega)
  clear hown
  by_cases hlt : qh < 0
  · have hv0 : qv = 0 := by
      rcases hq with ⟨_, e⟩ | ⟨h1, x, hx, e⟩
      · cases e; rfl
      · cases e
        have := (hx.hours h1.1 h1.2.1).1
        omega
    subst hv0
    clear hq hrs hR hrl
    go_wp2_with (go_at_call 9; refine (shelves_true _).mono ?_; rintro e w6 ⟨rfl, hb6⟩)
    go_ret
    exact ⟨rfl, b5.trans (hb6.mono b5.size)⟩
  · have hge : decide (qh < 0) = false := by simpa using hlt
    obtain ⟨h1, hok, hval, hle⟩ : (storeOk l ∧ hourB h = true ∧ tabB t = true) ∧ rowsOk' rs ∧ rowOfF t r rs = qv ∧ qh ≤ h := by
      rcases hq with ⟨_, e⟩ | ⟨h1, x, hx, e⟩
      · cases e; exact absurd (by decide) hlt
      · cases e
        have hst : St l h l.length rs := by
          rcases hrs with ⟨g1, _⟩ | ⟨_, g2⟩
          · exact absurd ⟨h1.1, h1.2.1⟩ g1
          · exact g2
        exact ⟨h1, (St.keys h1.1 (Nat.le_refl _) hst).1, St.read h1.1 hst hx, (hx.hours h1.1 h1.2.1).2⟩
    clear hq hrs hlt h1 hrl
    have HO : Hid (rowsOk' rs) := hok
    clear hok
    go_wp2_with fail
    refine (specRowsOk_any _ rs _ hR).mono ?_
    rintro e w6 ⟨⟨q, rfl, hq⟩, hb6⟩
    obtain rfl := hq.2 HO.out
    clear hq
    have b6 := b5.trans (hb6.mono b5.size)
    replace p1 := cell_stays hb6 p1
    replace p2 := cell_stays hb6 p2
    replace hR := hR.stays hb6
    go_wp2_with fail
    refine (specRowOf_any _ rs t r _ hR).mono ?_
    rintro e w7 ⟨rfl, hb7⟩
    rw [hval]
    have b7 := b6.trans (hb7.mono b6.size)
    go_wp2_with (go_at_call 9; refine (shelves_true _).mono ?_; rintro e w8 ⟨rfl, hb8⟩)
    go_ret
    exact ⟨rfl, b7.trans (hb8.mono b7.size)⟩

theorem own : ownKnob Try.prog.godebug = none := by kernel_rfl
theorem laidOut : laidOutB Try.prog = true := by kernel_rfl

set_option maxRecDepth 100000 in
theorem liftedStates (os : Os) (started : os.Started) (H : Type) (enc : TypeId × Value → H) :
    ReturnsInHanded {} Try.checked os 5 .any (Rows.fnStatesSpec.pre6 enc Try.prog Try.f5 Rows.fnStatesRow.domain false) (Rows.fnStatesSpec.post enc Try.prog Try.f5 false true false false) := by
  refine returnsInHanded_of_change (C := Try.checked) own started (by kernel_rfl) Try.func5
    (ChangeSpec.witness6 (enc := enc) (C := Try.checked) false ⟨#[], #[.slice none 0 0], []⟩ 8 (by kernel_rfl) (by kernel_rfl) (by kernel_rfl) (by kernel_rfl)) ?_
  intro W base args ds gs before hval0 hW hcnd _
  have hval : ∀ (j : Nat) t v, Try.f5.params[j]? = some t → args[j]? = some v → Value.okWide Try.prog W .any base t v := hval0
  have hW' := hW
  obtain ⟨p, q, hA0, hV, rfl, hfz, hnd⟩ := hW
  have hA : DataW.TrodAll enc Try.prog W 0 (fun _ => true) true Try.f5.params.toList args.toList ds p := hA0
  rw [Try.params5] at hA hval
  obtain ⟨v0, vs0, d0, ds0, p0, q0, hargs, rfl, rfl, h0, r0⟩ := trodAll_cons hA
  obtain ⟨rfl, rfl, rfl⟩ := trodAll_nil r0
  obtain rfl : args = #[v0] := by cases args; simp_all
  obtain ⟨rfl, rfl⟩ := trodVars_none hV
  have k0 := h0
  have lt0 : ∀ x ∈ p0, x.block < W.heap.size := by obtain ⟨m, hm⟩ := k0; exact DataW.trod_lt m _ _ _ hm
  obtain ⟨a, n, cap, rfl, hl⟩ := open_code (hval 0 22 v0 rfl rfl) h0
  clear hA0 hval0
  refine (fnStates_any a n cap W hl).mono fun e W' ⟨he, bel⟩ => ?_
  subst he
  exact ⟨_, rfl, _, _, _, [], _, [], hW', trodAll_mk1 (shut_bool Try.underlying4 _), trodAll_cons_mk (Below.trod laidOut (by kernel_rfl) (of_decide_eq_true (by kernel_rfl)) k0 bel lt0) trodAll_mk0, rfl, bel.frame _, fun h => by cases h⟩

theorem fnStates_holds : Rows.FnStatesSaid :=
  OpenClaim.holds_of_wide 5 Try.f5 rfl rfl rfl rfl rfl rfl rfl ⟨rfl, rfl, rfl, rfl, rfl⟩ rfl rfl rfl rfl rfl (by kernel_rfl) Try.func5 (by kernel_rfl)
    (of_decide_eq_true (by kernel_rfl)) (by unfold Func.isWrapper; first | (rw [if_pos (by decide +kernel)]; kernel_rfl) | (rw [if_neg (by decide +kernel)]; exact ⟨rfl, rfl⟩))
    (fun os started H enc _ => liftedStates os started H enc)

#print axioms fnStates_holds
end Go.Proofs.Ytifdfelpbonckaa
