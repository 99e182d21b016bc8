/- Has somebody else been first? spec.l2lost, impl.outrun, both Lost functions. -/
import Derived.Test.YtgnfiakbcogdlakMTx
import Derived.Test.YtgnfiakbcogdlakMSpec2
import Derived.Test.YtgnfiakbcogdlakMOpen
import Derived.Test.YtgnfiakbcogdlakLast2
namespace Go.Proofs.Ytgnfiakbcogdlak
open Go.ChangeShapes Go.WideShapes Go.ChangeAt Go.RowKit Go.Sort
set_option linter.unusedVariables false
set_option maxRecDepth 100000
attribute [local go_sem ↓] Go.wp_at_zero Go.wp_at_succ

theorem isLastAt_ex (l : List Ch) (t r : Int) : ∃ x, IsLastAt l t r x := by
  have key : ∀ n, n ≤ l.length → (∀ j, j < n → ¬ km l j t r) ∨ ∃ x, IsLastAt l t r x := fun n => by
    induction n with
    | zero => exact fun _ => .inl fun j hj => absurd hj (Nat.not_lt_zero _)
    | succ n ih =>
      intro hn
      rcases ih (by omega) with h | h
      · by_cases e : km l n t r
        · exact .inr ⟨_, .inr ⟨n, by omega, e, h, rfl⟩⟩
        · refine .inl fun j hj => ?_
          by_cases e' : j = n
          · exact e' ▸ e
          · exact h j (by omega)
      · exact .inr h
  rcases key _ (Nat.le_refl _) with h | h
  · exact ⟨0, .inl ⟨rfl, h⟩⟩
  · exact h

theorem l1last_is (v : Value) (l : List Ch) (t r x : Int) (w : World) {lo hi : Nat} (hl : ChainsAt lo hi w v l) (hs : storeOk l) (hx : IsLastAt l t r x) :
    Calls Try.prog 27 #[.agg #[v], .agg #[.int .i64 t, .int .i64 r]] w fun e w' => e = .returned (.int .i64 x) ∧ Below w.heap.size w w' := by
  refine (l1last_any v l t r w hl hs).mono ?_
  rintro e w' ⟨y, rfl, hy, hb⟩
  obtain rfl := hx.one hy
  exact ⟨rfl, hb⟩
theorem implLastAt_is (v : Value) (l : List Ch) (t r x : Int) (w : World) {lo hi : Nat} (hl : ChainsAt lo hi w v l) (hs : storeOk l) (ht : tabB t = true) (hw : WfCh l) (wt : wf t) (wr : wf r) (hx : IsLastAt l t r x) :
    Calls Try.prog 33 #[.agg #[v], .agg #[.int .i64 t, .int .i64 r]] w fun e w' => e = .returned (.int .i64 x) ∧ Below w.heap.size w w' := by
  refine (implLastAt_any v l t r w hl hw wt wr (by have := hs.1; omega)).mono ?_
  rintro e w' ⟨y, rfl, hy, hb⟩
  rcases hy with ⟨h1, _⟩ | ⟨_, hy⟩
  · exact absurd ⟨hs, ht⟩ h1
  · obtain rfl := hx.one hy
    exact ⟨rfl, hb⟩

/-- The j-th row of the list has a version later than s. -/
def late (l : List Ch) (w : List Rw) (s : Int) (j : Nat) : Prop := ∃ x, IsLastAt l (rAt w j).t (rAt w j).r x ∧ s < x
def lostP (l : List Ch) (w : List Rw) (s : Int) : Prop := ∃ j, j < w.length ∧ late l w s j

set_option maxHeartbeats 1000000 in
theorem l2lost_any (b : Nat) (a1 : Option Addr) (cap1 : Nat) (vt ve : Value) (m : Md) (k0 : Nat) (w : World) {lo hi : Nat} (hbox : MBox w b (.slice a1 m.s.length cap1) m.c m.n vt ve) (hS : ChainsAt lo hi w (.slice a1 m.s.length cap1) m.s) (h : TxsAt lo hi w vt m.x) (ho : storeOk m.s) (hk0 : k0 < m.x.length) (hn60 : (tAt m.x k0).w.length ≤ 60) :
    Calls Try.prog 14 #[.pointer (some ⟨b, 0, none⟩), .int .i64 k0] w fun e w' => Says e (lostP m.s (tAt m.x k0).w (tAt m.x k0).s) ∧ Below w.heap.size w w' := by
  obtain ⟨a, cap, rfl, hm, hc⟩ := h
  unfold maxLen at hm
  obtain ⟨q0, q1, q2, q3, q4⟩ := id hbox
  obtain ⟨bt, off, rfl, _, _, hcc⟩ := hc (by omega)
  obtain ⟨c0, c1, ca, cb, c2, c3⟩ := hcc k0 hk0
  clear hcc hc
  have i0 : (0 : Int) ≤ (k0 : Int) := by omega
  have i1 : (k0 : Int) < (m.x.length : Int) := by omega
  have hA : Below w.heap.size w (w.alloc (Obj.cells #[Value.int IntKind.i64 (tAt m.x k0).i, Value.int IntKind.i64 (tAt m.x k0).s, Value.slice ca (tAt m.x k0).w.length cb] 59)) := (Below.refl _ _).alloc (Nat.le_refl _) _
  obtain ⟨a5, cap5, e5, hm5, hc5⟩ := c3.stays hA
  injection e5 with e51 e52 e53
  subst e51 e53
  clear e52 c3
  go_enter Try.func14, Try.ntmps14
  go_wp2
  generalize hW : w.alloc (Obj.cells #[Value.int IntKind.i64 (tAt m.x k0).i, Value.int IntKind.i64 (tAt m.x k0).s, Value.slice ca (tAt m.x k0).w.length cb] 59) = W at *
  have x1 : W.cell? ⟨w.heap.size, 1, none⟩ = some (.int .i64 (tAt m.x k0).s) := by rw [← hW]; simp
  have x2 : W.cell? ⟨w.heap.size, 2, none⟩ = some (.slice ca (tAt m.x k0).w.length cb) := by rw [← hW]; simp
  have z0 := cell_stays hA q0
  have hS' := hS.stays hA
  clear hW c0 c1 c2 q0 q1 q2 q3 q4
  go_loopw [6] (fun i wr => ∃ k : Nat, k ≤ (tAt m.x k0).w.length ∧ i = .int .i64 k ∧ Below W.heap.size W wr ∧ ∀ j, j < k → ¬ late m.s (tAt m.x k0).w (tAt m.x k0).s j) (fun i _ => (tAt m.x k0).w.length - (intOf i).toNat)
  case atStart => exact ⟨0, Nat.zero_le _, rfl, Below.refl _ _, fun j hj => absurd hj (Nat.not_lt_zero _)⟩
  case round =>
    rename World => wo
    obtain ⟨k, hk, rfl, hb, hs⟩ := hrel
    have y1 := cell_stays hb x1
    have y2 := cell_stays hb x2
    have hB := hA.trans (hb.mono hA.size)
    by_cases hlt : k < (tAt m.x k0).w.length
    · obtain ⟨b2, off2, rfl, _, _, hcc⟩ := hc5 (by omega)
      obtain ⟨d0, d1, _⟩ := hcc k hlt
      clear hcc hc5
      have k1 := cell_regrown y1
      have k2 := cell_regrown y2
      have k3 := cell_regrown (cell_stays hb z0)
      have k4 := cell_regrown (cell_stays hb d0)
      have k5 := cell_regrown (cell_stays hb d1)
      have j0 : (0 : Int) ≤ (k : Int) := by omega
      have j1 : (k : Int) < ((tAt m.x k0).w.length : Int) := by omega
      obtain ⟨x, hx⟩ := isLastAt_ex m.s (rAt (tAt m.x k0).w k).t (rAt (tAt m.x k0).w k).r
      have hSw := hS'.stays hb
      by_cases hle : (tAt m.x k0).s < x
      · go_wp2_with fail
        refine wp_region_quiet_below (by kernel_rfl) (by kernel_rfl) ?_
        repeat (go_big_quiet_step ((go_at_call 27; exact Calls.regrown_of (l1last_is _ m.s _ _ x _ (hSw.stays (below_regrown _ _ _)) ho hx))))
        refine wpQuiet_nil ?_
        intro w5 hw5
        obtain ⟨⟨dq, osq⟩, hw6⟩ := hw5
        have hb5 : Below _ _ w5 := hw6 ▸ below_regrown _ dq osq
        clear hw6
        go_wp2
        go_ret
        exact ⟨says_yes ⟨k, hlt, x, hx, hle⟩, hB.trans (hb5.mono hB.size)⟩
      · have hle' : decide ((tAt m.x k0).s < x) = false := by simpa using hle
        go_wp2_with fail
        refine wp_region_quiet_below (by kernel_rfl) (by kernel_rfl) ?_
        repeat (go_big_quiet_step ((go_at_call 27; exact Calls.regrown_of (l1last_is _ m.s _ _ x _ (hSw.stays (below_regrown _ _ _)) ho hx))))
        refine wpQuiet_nil ?_
        intro w5 hw5
        obtain ⟨⟨dq, osq⟩, hw6⟩ := hw5
        have hb5 : Below _ _ w5 := hw6 ▸ below_regrown _ dq osq
        clear hw6
        have hno : ¬ late m.s (tAt m.x k0).w (tAt m.x k0).s k := fun ⟨y, hy, hy2⟩ => by
          obtain rfl := hx.one hy
          omega
        go_wp2
        go_roundw
        case rel => exact ⟨k + 1, by omega, by go_num, hb.trans (hb5.mono hb.size), upto_succ hs hno⟩
        case measure => simp [intOf]; omega
    · clear hc5
      go_wp2
      go_ret
      exact ⟨says_no fun ⟨j, hj, hl⟩ => hs j (by omega) hl, hB⟩

set_option maxHeartbeats 1000000 in
theorem outrun_any (v : Value) (l : List Ch) (ii ss : Int) (vw : Value) (r : List Rw) (w : World) {lo hi : Nat} (hS : ChainsAt lo hi w v l) (h : RowsAt lo hi w vw r) (ho : storeOk l) (hr : rowsOk r) (hw : WfCh l) (hwr : WfRw r) :
    Calls Try.prog 19 #[.agg #[v], .agg #[.int .i64 ii, .int .i64 ss, vw]] w fun e w' => Says e (lostP l r ss) ∧ Below w.heap.size w w' := by
  obtain ⟨a1, cap1, hv1⟩ : ∃ a cap, v = .slice a l.length cap := by obtain ⟨a, cap, h1, _⟩ := hS; exact ⟨a, cap, h1⟩
  subst hv1
  obtain ⟨a, cap, rfl, hm, hc⟩ := h
  unfold maxLen at hm
  have hn60 := hr.1
  have hA : Below w.heap.size w ((w.alloc (Obj.cells #[Value.slice a1 l.length cap1] 33)).alloc (Obj.cells #[Value.int IntKind.i64 ii, Value.int IntKind.i64 ss, Value.slice a r.length cap] 59)) := ((Below.refl _ _).alloc (Nat.le_refl _) _).alloc (by simp) _
  go_enter Try.func19, Try.ntmps19
  go_wp2
  generalize hW : (w.alloc (Obj.cells #[Value.slice a1 l.length cap1] 33)).alloc (Obj.cells #[Value.int IntKind.i64 ii, Value.int IntKind.i64 ss, Value.slice a r.length cap] 59) = W at *
  have x0 : W.cell? ⟨w.heap.size, 0, none⟩ = some (.slice a1 l.length cap1) := by rw [← hW]; simp
  have x1 : W.cell? ⟨w.heap.size + 1, 1, none⟩ = some (.int .i64 ss) := by rw [← hW]; simp
  have hS' := hS.stays hA
  clear hW
  go_loopw [10] (fun i wr => ∃ k : Nat, k ≤ r.length ∧ i = .int .i64 k ∧ Below W.heap.size W wr ∧ ∀ j, j < k → ¬ late l r ss j) (fun i _ => r.length - (intOf i).toNat)
  case atStart => exact ⟨0, Nat.zero_le _, rfl, Below.refl _ _, fun j hj => absurd hj (Nat.not_lt_zero _)⟩
  case round =>
    rename World => wo
    obtain ⟨k, hk, rfl, hb, hs⟩ := hrel
    have y0 := cell_stays hb x0
    have y1 := cell_stays hb x1
    have hB := hA.trans (hb.mono hA.size)
    by_cases hlt : k < r.length
    · obtain ⟨b2, off2, rfl, _, _, hcc⟩ := hc (by omega)
      obtain ⟨d0, d1, d2⟩ := hcc k hlt
      replace d0 := cell_stays hB d0
      replace d1 := cell_stays hB d1
      replace d2 := cell_stays hB d2
      clear hcc hc
      have j0 : (0 : Int) ≤ (k : Int) := by omega
      have j1 : (k : Int) < (r.length : Int) := by omega
      have hR : Below wo.heap.size wo (wo.alloc (Obj.cells #[Value.int IntKind.i64 (rAt r k).t, Value.int IntKind.i64 (rAt r k).r, Value.int IntKind.i64 (rAt r k).v] 78)) := (Below.refl _ _).alloc (Nat.le_refl _) _
      have k1 := cell_regrown (cell_stays hR y0)
      have k2 := cell_regrown (cell_stays hR y1)
      have k3 := cell_regrown (w := wo.alloc (Obj.cells #[Value.int IntKind.i64 (rAt r k).t, Value.int IntKind.i64 (rAt r k).r, Value.int IntKind.i64 (rAt r k).v] 78)) (a := ⟨wo.heap.size, 0, none⟩) (v := .int .i64 (rAt r k).t) (by simp)
      have k4 := cell_regrown (w := wo.alloc (Obj.cells #[Value.int IntKind.i64 (rAt r k).t, Value.int IntKind.i64 (rAt r k).r, Value.int IntKind.i64 (rAt r k).v] 78)) (a := ⟨wo.heap.size, 1, none⟩) (v := .int .i64 (rAt r k).r) (by simp)
      obtain ⟨x, hx⟩ := isLastAt_ex l (rAt r k).t (rAt r k).r
      have hSw := (hS'.stays hb).stays hR
      have htab := (hr.2 k hlt).1
      have hwk := hwr k hlt
      have hBR := hB.trans (hR.mono hB.size)
      have HT : Hid (tabB (rAt r k).t = true) := htab
      clear htab
      by_cases hle : ss < x
      · go_wp2_with fail
        refine wp_region_quiet_below (by kernel_rfl) (by kernel_rfl) ?_
        repeat (go_big_quiet_step ((go_at_call 33; exact Calls.regrown_of (implLastAt_is _ l _ _ x _ (hSw.stays (below_regrown _ _ _)) ho HT.out hw hwk.1 hwk.2 hx))))
        refine wpQuiet_nil ?_
        intro w5 hw5
        obtain ⟨⟨dq, osq⟩, hw6⟩ := hw5
        have hb5 : Below _ _ w5 := hw6 ▸ below_regrown _ dq osq
        clear hw6
        go_wp2
        go_ret
        exact ⟨says_yes ⟨k, hlt, x, hx, hle⟩, hBR.trans (hb5.mono hBR.size)⟩
      · have hle' : decide (ss < x) = false := by simpa using hle
        go_wp2_with fail
        refine wp_region_quiet_below (by kernel_rfl) (by kernel_rfl) ?_
        repeat (go_big_quiet_step ((go_at_call 33; exact Calls.regrown_of (implLastAt_is _ l _ _ x _ (hSw.stays (below_regrown _ _ _)) ho HT.out hw hwk.1 hwk.2 hx))))
        refine wpQuiet_nil ?_
        intro w5 hw5
        obtain ⟨⟨dq, osq⟩, hw6⟩ := hw5
        have hb5 : Below _ _ w5 := hw6 ▸ below_regrown _ dq osq
        clear hw6
        have hno : ¬ late l r ss k := fun ⟨y, hy, hy2⟩ => by
          obtain rfl := hx.one hy
          omega
        have hbR := hb.trans (hR.mono hb.size)
        go_wp2
        go_roundw
        case rel => exact ⟨k + 1, by omega, by go_num, hbR.trans (hb5.mono hbR.size), upto_succ hs hno⟩
        case measure => simp [intOf]; omega
    · clear hc
      go_wp2
      go_ret
      exact ⟨says_no fun ⟨j, hj, hl⟩ => hs j (by omega) hl, hB⟩

end Go.Proofs.Ytgnfiakbcogdlak
