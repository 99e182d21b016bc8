import Derived.Test.YtmecbppblbmchaaGreatDoorCopyG
/- The program's MgrOk: it is what it is to be a state of the whole. -/
namespace Go.Proofs.YtmecbppblbmchaaGreatDoor
open Go.ChangeShapes Go.WideShapes Go.ChangeAt Go.RowKit Go.Sort
set_option linter.unusedVariables false
set_option maxRecDepth 100000
attribute [local go_sem ↓] Go.wp_at_zero Go.wp_at_succ

set_option maxHeartbeats 4000000 in
theorem implMgrOk_any (vs vt ve : Value) (m : Md) (w : World) {lo hi : Nat} (h : MAt lo hi w vs vt ve m) :
    Calls Tryz.prog 69 #[.agg #[vs, .int .i64 m.c, .int .i64 m.n, vt, ve]] w fun e w' => Says e (mgrOk m) ∧ Below w.heap.size w w' := by
  obtain ⟨a1, cap1, hv1⟩ : ∃ a cap, vs = .slice a m.s.length cap := by obtain ⟨a, cap, h1, _⟩ := h.s; exact ⟨a, cap, h1⟩
  obtain ⟨a2, cap2, hv2⟩ : ∃ a cap, vt = .slice a m.x.length cap := by obtain ⟨a, cap, h1, _⟩ := h.x; exact ⟨a, cap, h1⟩
  obtain ⟨a3, cap3, hv3⟩ : ∃ a cap, ve = .slice a m.h.length cap := by obtain ⟨a, cap, h1, _⟩ := h.h; exact ⟨a, cap, h1⟩
  subst hv1 hv2 hv3
  have hbx : Below w.heap.size w (w.alloc (Obj.cells #[Value.slice a1 m.s.length cap1, .int .i64 m.c, .int .i64 m.n, Value.slice a2 m.x.length cap2, Value.slice a3 m.h.length cap3] 36)) := (Below.refl _ _).alloc (Nat.le_refl _) _
  have hB := MBox.new w (Value.slice a1 m.s.length cap1) m.c m.n (Value.slice a2 m.x.length cap2) (Value.slice a3 m.h.length cap3) 36
  have hM := h.stays hbx
  have hsz : w.heap.size < (w.alloc (Obj.cells #[Value.slice a1 m.s.length cap1, .int .i64 m.c, .int .i64 m.n, Value.slice a2 m.x.length cap2, Value.slice a3 m.h.length cap3] 36)).heap.size := by simp
  have k0 := cell_regrown hB.s
  have k1 := cell_regrown hB.c
  have k2 := cell_regrown hB.n
  have k3 := cell_regrown hB.x
  have k4 := cell_regrown hB.h
  go_enter Tryz.func69, Tryz.ntmps69
  go_wp2_with fail
  generalize w.alloc (Obj.cells #[Value.slice a1 m.s.length cap1, .int .i64 m.c, .int .i64 m.n, Value.slice a2 m.x.length cap2, Value.slice a3 m.h.length cap3] 36) = W at *
  by_cases hs : storeOk m.s
  · by_cases hh : hourB m.c = true
    · have hc0 := ((hourB_iff _).1 hh).1
      by_cases hl : nh m.s m.s.length ≤ m.c
      · by_cases hn1 : 1 ≤ m.n
        · by_cases hn2 : m.n ≤ 1000000
          · by_cases hx : txsOk m
            · by_cases hz : m.h.length ≤ 3000
              · have hz' : (m.h.length : Int) ≤ 3000 := by omega
                refine wp_region_quiet_below (by kernel_rfl) (by kernel_rfl) ?_
                repeat (go_big_quiet_step (first | (go_at_call 105; exact Calls.regrown_of (implStoreOk_yes _ m.s _ (hM.s.stays (below_regrown _ _ _)) hs)) | (go_at_call 106; exact Calls.regrown_of (isHour_below _ _)) | (go_at_call 107; exact Calls.regrown_of (newestHour_any _ m.s _ (hM.s.stays (below_regrown _ _ _)) hs)) | (go_at_call 108; exact Calls.regrown_of (txsOk_yes _ _ _ m _ (hM.x.stays (below_regrown _ _ _)) hx))))
                refine wpQuiet_nil ?_
                intro w2 hw2
                obtain ⟨⟨dq, osq⟩, hw3⟩ := hw2
                have hb2 : Below _ _ w2 := hw3 ▸ below_regrown _ dq osq
                clear hw3
                go_wp2
                go_ret
                exact ⟨says_yes ⟨hs, hh, hn1, hn2, hz, (nh_le _ _ hc0 _).1 hl, hx⟩, hbx.trans (hb2.mono hbx.size)⟩
              · have hz' : decide ((m.h.length : Int) ≤ 3000) = false := by rw [decide_eq_false_iff_not]; omega
                refine wp_region_quiet_below (by kernel_rfl) (by kernel_rfl) ?_
                repeat (go_big_quiet_step (first | (go_at_call 105; exact Calls.regrown_of (implStoreOk_yes _ m.s _ (hM.s.stays (below_regrown _ _ _)) hs)) | (go_at_call 106; exact Calls.regrown_of (isHour_below _ _)) | (go_at_call 107; exact Calls.regrown_of (newestHour_any _ m.s _ (hM.s.stays (below_regrown _ _ _)) hs)) | (go_at_call 108; exact Calls.regrown_of (txsOk_yes _ _ _ m _ (hM.x.stays (below_regrown _ _ _)) hx))))
                refine wpQuiet_nil ?_
                intro w2 hw2
                obtain ⟨⟨dq, osq⟩, hw3⟩ := hw2
                have hb2 : Below _ _ w2 := hw3 ▸ below_regrown _ dq osq
                clear hw3
                go_wp2
                go_ret
                exact ⟨says_no fun h => hz h.2.2.2.2.1, hbx.trans (hb2.mono hbx.size)⟩
            · refine wp_region_quiet_below (by kernel_rfl) (by kernel_rfl) ?_
              repeat (go_big_quiet_step (first | (go_at_call 105; exact Calls.regrown_of (implStoreOk_yes _ m.s _ (hM.s.stays (below_regrown _ _ _)) hs)) | (go_at_call 106; exact Calls.regrown_of (isHour_below _ _)) | (go_at_call 107; exact Calls.regrown_of (newestHour_any _ m.s _ (hM.s.stays (below_regrown _ _ _)) hs)) | (go_at_call 108; exact Calls.regrown_of (txsOk_no _ _ _ m _ (hM.x.stays (below_regrown _ _ _)) hx))))
              refine wpQuiet_nil ?_
              intro w2 hw2
              obtain ⟨⟨dq, osq⟩, hw3⟩ := hw2
              have hb2 : Below _ _ w2 := hw3 ▸ below_regrown _ dq osq
              clear hw3
              go_wp2
              go_ret
              exact ⟨says_no fun h => hx h.2.2.2.2.2.2, hbx.trans (hb2.mono hbx.size)⟩
          · have hn2' : decide (m.n ≤ 1000000) = false := by simpa using hn2
            refine wp_region_quiet_below (by kernel_rfl) (by kernel_rfl) ?_
            repeat (go_big_quiet_step (first | (go_at_call 105; exact Calls.regrown_of (implStoreOk_yes _ m.s _ (hM.s.stays (below_regrown _ _ _)) hs)) | (go_at_call 106; exact Calls.regrown_of (isHour_below _ _)) | (go_at_call 107; exact Calls.regrown_of (newestHour_any _ m.s _ (hM.s.stays (below_regrown _ _ _)) hs)) | (go_at_call 108; exact Calls.regrown_of (txsOk_yes _ _ _ m _ (hM.x.stays (below_regrown _ _ _)) hx))))
            refine wpQuiet_nil ?_
            intro w2 hw2
            obtain ⟨⟨dq, osq⟩, hw3⟩ := hw2
            have hb2 : Below _ _ w2 := hw3 ▸ below_regrown _ dq osq
            clear hw3
            go_wp2
            go_ret
            exact ⟨says_no fun h => by have := h.2.2.2.1; omega, hbx.trans (hb2.mono hbx.size)⟩
        · have hn1' : decide (1 ≤ m.n) = false := by simpa using hn1
          refine wp_region_quiet_below (by kernel_rfl) (by kernel_rfl) ?_
          repeat (go_big_quiet_step (first | (go_at_call 105; exact Calls.regrown_of (implStoreOk_yes _ m.s _ (hM.s.stays (below_regrown _ _ _)) hs)) | (go_at_call 106; exact Calls.regrown_of (isHour_below _ _)) | (go_at_call 107; exact Calls.regrown_of (newestHour_any _ m.s _ (hM.s.stays (below_regrown _ _ _)) hs)) | (go_at_call 108; exact Calls.regrown_of (txsOk_yes _ _ _ m _ (hM.x.stays (below_regrown _ _ _)) hx))))
          refine wpQuiet_nil ?_
          intro w2 hw2
          obtain ⟨⟨dq, osq⟩, hw3⟩ := hw2
          have hb2 : Below _ _ w2 := hw3 ▸ below_regrown _ dq osq
          clear hw3
          go_wp2
          go_ret
          exact ⟨says_no fun h => by have := h.2.2.1; omega, hbx.trans (hb2.mono hbx.size)⟩
      · have hl' : decide (nh m.s m.s.length ≤ m.c) = false := by simpa using hl
        refine wp_region_quiet_below (by kernel_rfl) (by kernel_rfl) ?_
        repeat (go_big_quiet_step (first | (go_at_call 105; exact Calls.regrown_of (implStoreOk_yes _ m.s _ (hM.s.stays (below_regrown _ _ _)) hs)) | (go_at_call 106; exact Calls.regrown_of (isHour_below _ _)) | (go_at_call 107; exact Calls.regrown_of (newestHour_any _ m.s _ (hM.s.stays (below_regrown _ _ _)) hs)) | (go_at_call 108; exact Calls.regrown_of (txsOk_yes _ _ _ m _ (hM.x.stays (below_regrown _ _ _)) hx))))
        refine wpQuiet_nil ?_
        intro w2 hw2
        obtain ⟨⟨dq, osq⟩, hw3⟩ := hw2
        have hb2 : Below _ _ w2 := hw3 ▸ below_regrown _ dq osq
        clear hw3
        go_wp2
        go_ret
        exact ⟨says_no fun h => by have := (nh_le m.s m.c hc0 m.s.length).2 h.2.2.2.2.2.1; omega, hbx.trans (hb2.mono hbx.size)⟩
    · have hh' : hourB m.c = false := by simpa using hh
      refine wp_region_quiet_below (by kernel_rfl) (by kernel_rfl) ?_
      repeat (go_big_quiet_step (first | (go_at_call 105; exact Calls.regrown_of (implStoreOk_yes _ m.s _ (hM.s.stays (below_regrown _ _ _)) hs)) | (go_at_call 106; exact Calls.regrown_of (isHour_below _ _)) | (go_at_call 107; exact Calls.regrown_of (newestHour_any _ m.s _ (hM.s.stays (below_regrown _ _ _)) hs)) | (go_at_call 108; exact Calls.regrown_of (txsOk_yes _ _ _ m _ (hM.x.stays (below_regrown _ _ _)) hx))))
      refine wpQuiet_nil ?_
      intro w2 hw2
      obtain ⟨⟨dq, osq⟩, hw3⟩ := hw2
      have hb2 : Below _ _ w2 := hw3 ▸ below_regrown _ dq osq
      clear hw3
      go_wp2
      go_ret
      exact ⟨says_no fun h => hh h.2.1, hbx.trans (hb2.mono hbx.size)⟩
  · refine wp_region_quiet_below (by kernel_rfl) (by kernel_rfl) ?_
    repeat (go_big_quiet_step (first | (go_at_call 105; exact Calls.regrown_of (implStoreOk_no _ m.s _ (hM.s.stays (below_regrown _ _ _)) hs))))
    refine wpQuiet_nil ?_
    intro w2 hw2
    obtain ⟨⟨dq, osq⟩, hw3⟩ := hw2
    have hb2 : Below _ _ w2 := hw3 ▸ below_regrown _ dq osq
    clear hw3
    go_wp2
    go_ret
    exact ⟨says_no fun h => hs h.1, hbx.trans (hb2.mono hbx.size)⟩

end Go.Proofs.YtmecbppblbmchaaGreatDoor
