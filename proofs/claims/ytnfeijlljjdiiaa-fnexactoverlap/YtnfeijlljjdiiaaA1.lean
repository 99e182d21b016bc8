/- Both Overlap functions. -/
import Derived.Test.YtnfeijlljjdiiaaA0
import Derived.Test.YtnfeijlljjdiiaaSays
namespace Go.Proofs.Ytnfeijlljjdiiaa
open Go.ChangeShapes Go.WideShapes Go.ChangeAt Go.RowKit
set_option linter.unusedVariables false
set_option maxRecDepth 100000
attribute [local go_sem ↓] Go.wp_at_zero Go.wp_at_succ

/-- The two may be of one row. -/
def Over (x y : Ac) : Prop := x.t = y.t ∧ (x.c = false ∨ y.c = false ∨ x.r = y.r)

set_option maxHeartbeats 2000000 in
theorem implOverlap_any (x y : Ac) (v u : Value) (w : World) (hv : ∃ a n c, v = .slice a n c) (hu : ∃ a n c, u = .slice a n c) :
    Calls Try.prog 8 #[.agg #[.int .i64 x.n, .bool x.w, .int .i64 x.t, .bool x.c, .int .i64 x.r, .bool x.s, v], .agg #[.int .i64 y.n, .bool y.w, .int .i64 y.t, .bool y.c, .int .i64 y.r, .bool y.s, u]] w fun e w' => Says e (Over x y) ∧ Below w.heap.size w w' := by
  obtain ⟨a, n, c, rfl⟩ := hv
  obtain ⟨a', n', c', rfl⟩ := hu
  obtain ⟨xn, xw, xt, xc, xr, xs, xl⟩ := x
  obtain ⟨yn, yw, yt, yc, yr, ys, yl⟩ := y
  have hbx : Below w.heap.size w ((w.alloc (Obj.cells #[.int .i64 xn, .bool xw, .int .i64 xt, .bool xc, .int .i64 xr, .bool xs, Value.slice a n c] 27)).alloc (Obj.cells #[.int .i64 yn, .bool yw, .int .i64 yt, .bool yc, .int .i64 yr, .bool ys, Value.slice a' n' c'] 27)) := ((Below.refl _ _).alloc (Nat.le_refl _) _).alloc (by simp) _
  obtain ⟨O, hO⟩ : ∃ O, Over ⟨xn, xw, xt, xc, xr, xs, xl⟩ ⟨yn, yw, yt, yc, yr, ys, yl⟩ = O := ⟨_, rfl⟩
  rw [hO]
  obtain ⟨q, hq⟩ : ∃ q, q = (decide (xt = yt) && (!xc || !yc || decide (xr = yr))) := ⟨_, rfl⟩
  have HQ : Hid (Says (.returned (.bool q)) O) := by
    refine ⟨_, rfl, ?_⟩
    rw [hq, ← hO]; simp [Over]; cases xc <;> cases yc <;> simp
  clear hO
  by_cases ht : xt = yt
  · by_cases hr : xr = yr
    · have d1 : (xt == yt) = true := by simpa using ht
      have d2 : (xr == yr) = true := by simpa using hr
      rw [decide_eq_true ht, decide_eq_true hr] at hq
      change Hid _ at ht
      change Hid _ at hr
      cases xc <;> cases yc
      all_goals
        simp at hq
        subst hq
        go_enter Try.func8, Try.ntmps8
        go_wp2
        go_ret
        exact ⟨HQ.out, hbx⟩
    · have d1 : (xt == yt) = true := by simpa using ht
      have d2 : (xr == yr) = false := by simpa using hr
      rw [decide_eq_true ht, decide_eq_false hr] at hq
      change Hid _ at ht
      change Hid _ at hr
      cases xc <;> cases yc
      all_goals
        simp at hq
        subst hq
        go_enter Try.func8, Try.ntmps8
        go_wp2
        go_ret
        exact ⟨HQ.out, hbx⟩
  · have d1 : (xt == yt) = false := by simpa using ht
    rw [decide_eq_false ht] at hq
    change Hid _ at ht
    simp at hq
    subst hq
    go_enter Try.func8, Try.ntmps8
    go_wp2
    go_ret
    exact ⟨HQ.out, hbx⟩

set_option maxHeartbeats 2000000 in
theorem specOverlap_any (x y : Ac) (v u : Value) (w : World) (hv : ∃ a n c, v = .slice a n c) (hu : ∃ a n c, u = .slice a n c) :
    Calls Try.prog 6 #[.agg #[.int .i64 x.n, .bool x.w, .int .i64 x.t, .bool x.c, .int .i64 x.r, .bool x.s, v], .agg #[.int .i64 y.n, .bool y.w, .int .i64 y.t, .bool y.c, .int .i64 y.r, .bool y.s, u]] w fun e w' => Says e (Over x y) ∧ Below w.heap.size w w' := by
  obtain ⟨a, n, c, rfl⟩ := hv
  obtain ⟨a', n', c', rfl⟩ := hu
  obtain ⟨xn, xw, xt, xc, xr, xs, xl⟩ := x
  obtain ⟨yn, yw, yt, yc, yr, ys, yl⟩ := y
  have hbx : Below w.heap.size w ((w.alloc (Obj.cells #[.int .i64 xn, .bool xw, .int .i64 xt, .bool xc, .int .i64 xr, .bool xs, Value.slice a n c] 27)).alloc (Obj.cells #[.int .i64 yn, .bool yw, .int .i64 yt, .bool yc, .int .i64 yr, .bool ys, Value.slice a' n' c'] 27)) := ((Below.refl _ _).alloc (Nat.le_refl _) _).alloc (by simp) _
  obtain ⟨O, hO⟩ : ∃ O, Over ⟨xn, xw, xt, xc, xr, xs, xl⟩ ⟨yn, yw, yt, yc, yr, ys, yl⟩ = O := ⟨_, rfl⟩
  rw [hO]
  obtain ⟨q, hq⟩ : ∃ q, q = (decide (xt = yt) && (!xc || !yc || decide (xr = yr))) := ⟨_, rfl⟩
  have HQ : Hid (Says (.returned (.bool q)) O) := by
    refine ⟨_, rfl, ?_⟩
    rw [hq, ← hO]; simp [Over]; cases xc <;> cases yc <;> simp
  clear hO
  by_cases ht : xt = yt
  · by_cases hr : xr = yr
    · have d1 : (xt == yt) = true := by simpa using ht
      have d2 : (xr == yr) = true := by simpa using hr
      have d3 : (xr != yr) = false := by simp [bne, d2]
      rw [decide_eq_true ht, decide_eq_true hr] at hq
      change Hid _ at ht
      change Hid _ at hr
      cases xc <;> cases yc
      all_goals
        simp at hq
        subst hq
        go_enter Try.func6, Try.ntmps6
        go_wp2
        go_ret
        exact ⟨HQ.out, hbx⟩
    · have d1 : (xt == yt) = true := by simpa using ht
      have d2 : (xr == yr) = false := by simpa using hr
      have d3 : (xr != yr) = true := by simp [bne, d2]
      rw [decide_eq_true ht, decide_eq_false hr] at hq
      change Hid _ at ht
      change Hid _ at hr
      cases xc <;> cases yc
      all_goals
        simp at hq
        subst hq
        go_enter Try.func6, Try.ntmps6
        go_wp2
        go_ret
        exact ⟨HQ.out, hbx⟩
  · have d1 : (xt == yt) = false := by simpa using ht
    rw [decide_eq_false ht] at hq
    change Hid _ at ht
    simp at hq
    subst hq
    go_enter Try.func6, Try.ntmps6
    go_wp2
    go_ret
    exact ⟨HQ.out, hbx⟩
end Go.Proofs.Ytnfeijlljjdiiaa
