/- For every code, the law FnKeys returns true and the code reads afterwards as it read before. -/
import Derived.Test.YtgohdlgnmlekdaaDrawKeys
import Derived.Test.YtgohdlgnmlekdaaShelf
import Derived.ChangeOld
import Derived.Lib.SmallJoins
namespace Go.Proofs.Ytgohdlgnmlekdaa
open Go.ChangeShapes Go.WideShapes Go.ChangeAt Go.RowKit Go.Sort Go.Deep Go.Joins
set_option linter.unusedVariables false
set_option maxRecDepth 100000
attribute [local go_sem ↓] Go.wp_at_zero Go.wp_at_succ

theorem key_neq_yes (a b c d : Int) (h : ¬ (a = c ∧ b = d)) (w : World) : (binOp .neq 36 (.agg #[.int .i64 a, .int .i64 b]) (.agg #[.int .i64 c, .int .i64 d])).run Try.prog w = .ok (.bool true) w := by
  by_cases h1 : a = c
  · by_cases h2 : b = d
    · exact absurd ⟨h1, h2⟩ h
    · simp [go_sem, h1, h2]
  · simp [go_sem, h1]
theorem key_neq_no (a b : Int) (w : World) : (binOp .neq 36 (.agg #[.int .i64 a, .int .i64 b]) (.agg #[.int .i64 a, .int .i64 b])).run Try.prog w = .ok (.bool false) w := by
  simp [go_sem]

set_option maxHeartbeats 2000000 in
theorem fnKeys_any (a : Option Addr) (n cap : Nat) (w : World) (hc : BytesIn w a n) :
    Calls Try.prog 6 #[.slice a n cap] w fun e w' => e = .returned (.bool true) ∧ Below w.heap.size w w' := by
  go_enter Try.func6, Try.ntmps6
  go_wp2_with fail
  refine (drawKeyLess_any a n cap _ hc).mono ?_
  rintro e w1 ⟨⟨t, r, t2, r2, rfl⟩, b1⟩
  have hA : Below w1.heap.size w1 ((w1.alloc (Obj.cells #[.int .i64 t, .int .i64 r] 36)).alloc (Obj.cells #[.int .i64 t2, .int .i64 r2] 36)) := ((Below.refl _ _).alloc (Nat.le_refl _) _).alloc (by simp) _
  have b2 := b1.trans (hA.mono b1.size)
  have p0 : ((w1.alloc (Obj.cells #[.int .i64 t, .int .i64 r] 36)).alloc (Obj.cells #[.int .i64 t2, .int .i64 r2] 36)).cell? ⟨w1.heap.size, 0, none⟩ = some (.int .i64 t) := by simp [go_sem]
  have p1 : ((w1.alloc (Obj.cells #[.int .i64 t, .int .i64 r] 36)).alloc (Obj.cells #[.int .i64 t2, .int .i64 r2] 36)).cell? ⟨w1.heap.size, 1, none⟩ = some (.int .i64 r) := by simp [go_sem]
  have p2 : ((w1.alloc (Obj.cells #[.int .i64 t, .int .i64 r] 36)).alloc (Obj.cells #[.int .i64 t2, .int .i64 r2] 36)).cell? ⟨w1.heap.size + 1, 0, none⟩ = some (.int .i64 t2) := by simp [go_sem]
  have p3 : ((w1.alloc (Obj.cells #[.int .i64 t, .int .i64 r] 36)).alloc (Obj.cells #[.int .i64 t2, .int .i64 r2] 36)).cell? ⟨w1.heap.size + 1, 1, none⟩ = some (.int .i64 r2) := by simp [go_sem]
  go_wp2_with fail
  refine (implKeyLess_any _ _ _ _ _).mono ?_
  rintro e w3 ⟨rfl, hb3⟩
  have b3 := b2.trans (hb3.mono b2.size)
  replace p0 := cell_stays hb3 p0
  replace p1 := cell_stays hb3 p1
  replace p2 := cell_stays hb3 p2
  replace p3 := cell_stays hb3 p3
  clear hb3 b2 hA b1
  go_wp2_with fail
  refine (implKeyLess_any _ _ _ _ _).mono ?_
  rintro e w4 ⟨rfl, hb4⟩
  have b4 := b3.trans (hb4.mono b3.size)
  replace p0 := cell_stays hb4 p0
  replace p1 := cell_stays hb4 p1
  replace p2 := cell_stays hb4 p2
  replace p3 := cell_stays hb4 p3
  clear hb4 b3
  have hS : klB t r t r = false := by simp [klB]
  by_cases h1 : klB t r t2 r2 = true
  · have h2 : klB t2 r2 t r = false := by
      rw [klB_iff] at h1
      simp [klB]
      omega
    have hne := key_neq_yes t r t2 r2 (fun e => by rw [klB_iff] at h1; omega)
    go_wp2_with (first | (go_at_call 27; refine (implKeyLess_any _ _ _ _ _).mono ?_; rintro e w5 ⟨rfl, hb5⟩) | (go_at_call 10; refine (shelves_true _).mono ?_; rintro e w6 ⟨rfl, hb6⟩))
    go_ret
    have b5 := b4.trans (hb5.mono b4.size)
    exact ⟨rfl, b5.trans (hb6.mono b5.size)⟩
  · have h1' : klB t r t2 r2 = false := by simpa using h1
    by_cases h2 : klB t2 r2 t r = true
    · have hne := key_neq_yes t r t2 r2 (fun e => by rw [klB_iff] at h2; omega)
      go_wp2_with (first | (go_at_call 27; refine (implKeyLess_any _ _ _ _ _).mono ?_; rintro e w5 ⟨rfl, hb5⟩) | (go_at_call 10; refine (shelves_true _).mono ?_; rintro e w6 ⟨rfl, hb6⟩))
      go_ret
      have b5 := b4.trans (hb5.mono b4.size)
      exact ⟨rfl, b5.trans (hb6.mono b5.size)⟩
    · have h2' : klB t2 r2 t r = false := by simpa using h2
      obtain ⟨rfl, rfl⟩ : t = t2 ∧ r = r2 := by
        rw [klB_iff] at h1 h2
        omega
      have hne := key_neq_no t r
      go_wp2_with (first | (go_at_call 27; refine (implKeyLess_any _ _ _ _ _).mono ?_; rintro e w5 ⟨rfl, hb5⟩) | (go_at_call 10; refine (shelves_true _).mono ?_; rintro e w6 ⟨rfl, hb6⟩))
      go_ret
      have b5 := b4.trans (hb5.mono b4.size)
      exact ⟨rfl, b5.trans (hb6.mono b5.size)⟩

/-! ### The row -/

theorem add_plain {w : World} {a : Addr} {j : Nat} {v : Value} (h : w.cell? (a.add j) = some v) : a.add j = ⟨a.block, a.off + j, none⟩ := by
  have hs := World.cell?_spot h
  unfold Addr.add at hs ⊢
  obtain ⟨b, o, s⟩ := a
  by_cases hj : j = 0
  · simp [hj] at hs ⊢; exact hs
  · simp [hj] at hs ⊢; try exact hs
theorem spot_plain {w : World} {a : Addr} {v : Value} (h : w.cell? (a.add 0) = some v) : a = ⟨a.block, a.off, none⟩ := by
  have := add_plain h
  simpa [Addr.add] using this

theorem open_code {H : Type} {enc : TypeId × Value → H} {W : World} {r : Reach} {b0 : Nat} {v0 : Value} {d : DataW H} {p : List MemPlace} (hv : Value.okWide Try.prog W r b0 22 v0) (h : DataW.Trod enc Try.prog W 0 (fun _ => true) true 22 v0 d p) :
    ∃ a n cap, v0 = .slice a n cap ∧ BytesIn W a n := by
  have hce : Try.prog.cellsOf 5 = 1 := by kernel_rfl
  obtain ⟨a', n', c', rfl⟩ := okWide_slice Try.underlying22 hv
  obtain ⟨fuel, hf⟩ := h
  rcases open_slice Try.underlying22 hf with ⟨e, _⟩ | ⟨a, len, cap, m, n, D, Pl, e, _, hl, hm, hmm, _, hx⟩
  · simp [Value.cells] at e
    obtain ⟨rfl, rfl, rfl⟩ := e
    exact ⟨none, 0, 0, rfl, Nat.zero_le _, fun h => absurd h (Nat.lt_irrefl _)⟩
  · simp [Value.cells] at e
    obtain ⟨rfl, rfl, rfl⟩ := e
    obtain rfl : m = _ := by simpa using hmm
    have key : ∀ j, j < n' → ∃ x : Int, 0 ≤ x ∧ x ≤ 255 ∧ W.cell? (a.add j) = some (.int .u8 x) := fun j hj => by
      obtain ⟨cs', h1, h2⟩ := hx j (by omega)
      rw [hce] at h1
      obtain ⟨_, hlen, hcell⟩ := World.cells?_some h1
      obtain ⟨x, e1, _, w1⟩ := DataW.trod_int Try.underlying5 h2
      subst e1
      have e0 := hcell 0 (by omega)
      rw [add_add] at e0
      refine ⟨x, ?_, ?_, by simpa using e0⟩
      · simp [Lit.wf, IntKind.min, IntKind.max, IntKind.signed, IntKind.bits] at w1; omega
      · simp [Lit.wf, IntKind.min, IntKind.max, IntKind.signed, IntKind.bits] at w1; omega
    refine ⟨some a, n', _, rfl, by unfold maxLen at *; omega, fun hp => ?_⟩
    obtain ⟨x, _, _, e0⟩ := key 0 hp
    have ha := spot_plain e0
    refine ⟨a.block, a.off, by rw [← ha], by have := cell_lt e0; simpa [Addr.add] using this, fun j hj => ?_⟩
    obtain ⟨x, x0, x1, ex⟩ := key j hj
    rw [add_plain ex] at ex
    exact ⟨x, x0, x1, ex⟩

theorem own : ownKnob Try.prog.godebug = none := by kernel_rfl
theorem laidOut : laidOutB Try.prog = true := by kernel_rfl

set_option maxRecDepth 100000 in
theorem liftedKeys (os : Os) (started : os.Started) (H : Type) (enc : TypeId × Value → H) :
    ReturnsInHanded {} Try.checked os 6 .any (Rows.fnKeysSpec.pre6 enc Try.prog Try.f6 Rows.fnKeysRow.domain false) (Rows.fnKeysSpec.post enc Try.prog Try.f6 false true false false) := by
  refine returnsInHanded_of_change (C := Try.checked) own started (by kernel_rfl) Try.func6
    (ChangeSpec.witness6 (enc := enc) (C := Try.checked) false ⟨#[], #[.slice none 0 0], []⟩ 8 (by kernel_rfl) (by kernel_rfl) (by kernel_rfl) (by kernel_rfl)) ?_
  intro W base args ds gs before hval0 hW hcnd _
  have hval : ∀ (j : Nat) t v, Try.f6.params[j]? = some t → args[j]? = some v → Value.okWide Try.prog W .any base t v := hval0
  have hW' := hW
  obtain ⟨p, q, hA0, hV, rfl, hfz, hnd⟩ := hW
  have hA : DataW.TrodAll enc Try.prog W 0 (fun _ => true) true Try.f6.params.toList args.toList ds p := hA0
  rw [Try.params6] at hA hval
  obtain ⟨v0, vs0, d0, ds0, p0, q0, hargs, rfl, rfl, h0, r0⟩ := trodAll_cons hA
  obtain ⟨rfl, rfl, rfl⟩ := trodAll_nil r0
  obtain rfl : args = #[v0] := by cases args; simp_all
  obtain ⟨rfl, rfl⟩ := trodVars_none hV
  have k0 := h0
  have lt0 : ∀ x ∈ p0, x.block < W.heap.size := by obtain ⟨m, hm⟩ := k0; exact DataW.trod_lt m _ _ _ hm
  obtain ⟨a, n, cap, rfl, hl⟩ := open_code (hval 0 22 v0 rfl rfl) h0
  clear hA0 hval0
  refine (fnKeys_any a n cap W hl).mono fun e W' ⟨he, bel⟩ => ?_
  subst he
  exact ⟨_, rfl, _, _, _, [], _, [], hW', trodAll_mk1 (shut_bool Try.underlying4 _), trodAll_cons_mk (Below.trod laidOut (by kernel_rfl) (of_decide_eq_true (by kernel_rfl)) k0 bel lt0) trodAll_mk0, rfl, bel.frame _, fun h => by cases h⟩

theorem fnKeys_holds : Rows.FnKeysSaid :=
  OpenClaim.holds_of_wide 6 Try.f6 rfl rfl rfl rfl rfl rfl rfl ⟨rfl, rfl, rfl, rfl, rfl⟩ rfl rfl rfl rfl rfl (by kernel_rfl) Try.func6 (by kernel_rfl)
    (of_decide_eq_true (by kernel_rfl)) (by unfold Func.isWrapper; first | (rw [if_pos (by decide +kernel)]; kernel_rfl) | (rw [if_neg (by decide +kernel)]; exact ⟨rfl, rfl⟩))
    (fun os started H enc _ => liftedKeys os started H enc)

#print axioms fnKeys_holds
end Go.Proofs.Ytgohdlgnmlekdaa
