import Derived.Test.YtmecbppblbmchaaGreatDoorMSpec
/- The specification's MgrOk: it is what it is to be a state of the whole. -/
namespace Go.Proofs.YtmecbppblbmchaaGreatDoor
open Go.ChangeShapes Go.WideShapes Go.ChangeAt Go.RowKit Go.Sort
set_option linter.unusedVariables false
set_option maxRecDepth 100000
attribute [local go_sem ↓] Go.wp_at_zero Go.wp_at_succ

theorem l1hour_below (t : Int) (w : World) : Calls Tryz.prog 58 #[.int .i64 t] w fun e w' => e = .returned (.bool (hourB t)) ∧ Below w.heap.size w w' := by
  refine (l1hour_any t w).mono ?_
  rintro e w' ⟨rfl, rfl⟩
  exact ⟨rfl, Below.refl _ _⟩

set_option maxHeartbeats 4000000 in
theorem specMgrOk_any (vs vt ve : Value) (m : Md) (w : World) {lo hi : Nat} (h : MAt lo hi w vs vt ve m) :
    Calls Tryz.prog 27 #[.agg #[vs, .int .i64 m.c, .int .i64 m.n, vt, ve]] w fun e w' => Says e (mgrOk m) ∧ Below w.heap.size w w' := by
  obtain ⟨a1, cap1, hv1, hm1, hd1⟩ := id h.s
  obtain ⟨a2, cap2, hv2, hm2, hd2⟩ := id h.x
  obtain ⟨a3, cap3, hv3, hm3, _⟩ := id h.h
  subst hv1 hv2 hv3
  unfold maxLen at hm1 hm2 hm3
  have hbx : Below w.heap.size w (w.alloc (Obj.cells #[Value.slice a1 m.s.length cap1, .int .i64 m.c, .int .i64 m.n, Value.slice a2 m.x.length cap2, Value.slice a3 m.h.length cap3] 36)) := (Below.refl _ _).alloc (Nat.le_refl _) _
  have hB := MBox.new w (Value.slice a1 m.s.length cap1) m.c m.n (Value.slice a2 m.x.length cap2) (Value.slice a3 m.h.length cap3) 36
  have hM := h.stays hbx
  go_enter Tryz.func27, Tryz.ntmps27
  by_cases hs : storeOk m.s
  · by_cases hh : hourB m.c = true
    · have hc0 := ((hourB_iff _).1 hh).1
      by_cases hn1 : m.n < 1
      · go_wp2_with (first | (go_at_call 57; refine (specStoreOk_yes _ m.s _ hM.s hs).mono ?_; rintro e w1 ⟨rfl, hb1⟩; have hB1 := hB.stays hb1; obtain ⟨q0, q1, q2, q3, q4⟩ := id hB1) | (go_at_call 58; refine (l1hour_any _ _).mono ?_; rintro e w2 ⟨rfl, rfl⟩))
        go_ret
        exact ⟨says_no fun h => by have := h.2.2.1; omega, hbx.trans (hb1.mono hbx.size)⟩
      · by_cases hn2 : 1000000 < m.n
        · go_wp2_with (first | (go_at_call 57; refine (specStoreOk_yes _ m.s _ hM.s hs).mono ?_; rintro e w1 ⟨rfl, hb1⟩; have hB1 := hB.stays hb1; obtain ⟨q0, q1, q2, q3, q4⟩ := id hB1) | (go_at_call 58; refine (l1hour_any _ _).mono ?_; rintro e w2 ⟨rfl, rfl⟩))
          go_ret
          exact ⟨says_no fun h => by have := h.2.2.2.1; omega, hbx.trans (hb1.mono hbx.size)⟩
        · by_cases hx : 8 < m.x.length
          · have hx' : (8 : Int) < (m.x.length : Int) := by omega
            go_wp2_with (first | (go_at_call 57; refine (specStoreOk_yes _ m.s _ hM.s hs).mono ?_; rintro e w1 ⟨rfl, hb1⟩; have hB1 := hB.stays hb1; obtain ⟨q0, q1, q2, q3, q4⟩ := id hB1) | (go_at_call 58; refine (l1hour_any _ _).mono ?_; rintro e w2 ⟨rfl, rfl⟩))
            go_ret
            exact ⟨says_no fun h => by have := h.2.2.2.2.2.2.1; omega, hbx.trans (hb1.mono hbx.size)⟩
          · by_cases hz : 3000 < m.h.length
            · have hx' : ¬ (8 : Int) < (m.x.length : Int) := by omega
              have hz' : (3000 : Int) < (m.h.length : Int) := by omega
              go_wp2_with (first | (go_at_call 57; refine (specStoreOk_yes _ m.s _ hM.s hs).mono ?_; rintro e w1 ⟨rfl, hb1⟩; have hB1 := hB.stays hb1; obtain ⟨q0, q1, q2, q3, q4⟩ := id hB1) | (go_at_call 58; refine (l1hour_any _ _).mono ?_; rintro e w2 ⟨rfl, rfl⟩))
              go_ret
              exact ⟨says_no fun h => by have := h.2.2.2.2.1; omega, hbx.trans (hb1.mono hbx.size)⟩
            · have hx' : ¬ (8 : Int) < (m.x.length : Int) := by omega
              have hz' : ¬ (3000 : Int) < (m.h.length : Int) := by omega
              go_wp2_with (first | (go_at_call 57; refine (specStoreOk_yes _ m.s _ hM.s hs).mono ?_; rintro e w1 ⟨rfl, hb1⟩; have hB1 := hB.stays hb1; obtain ⟨q0, q1, q2, q3, q4⟩ := id hB1) | (go_at_call 58; refine (l1hour_any _ _).mono ?_; rintro e w2 ⟨rfl, rfl⟩))
              have hb2 := hbx.trans (hb1.mono hbx.size)
              have HH : Hid (hourB m.c = true) := hh
              clear q0 q1 q2 q3 q4 hh hB hbx hb1
              go_loopw [3] (fun i wr => ∃ k : Nat, k ≤ m.s.length ∧ i = .int .i64 k ∧ Below w.heap.size w wr ∧ MBox wr w.heap.size (Value.slice a1 m.s.length cap1) m.c m.n (Value.slice a2 m.x.length cap2) (Value.slice a3 m.h.length cap3) ∧ ∀ j, j < k → lastH (cAt m.s j).l ≤ m.c) (fun i _ => m.s.length - (intOf i).toNat)
              case atStart => exact ⟨0, Nat.zero_le _, rfl, hb2, hB1, fun j hj => absurd hj (Nat.not_lt_zero _)⟩
              case round =>
                rename World => wo
                obtain ⟨k, hk, rfl, hb, hbox, hin⟩ := hrel
                by_cases hlt : k < m.s.length
                · obtain ⟨b, off, rfl, hlo, hhi, hcc⟩ := hd1 (by omega)
                  obtain ⟨c0, c1, _⟩ := hcc k hlt
                  have i0 : (0 : Int) ≤ (k : Int) := by omega
                  have i1 : (k : Int) < (m.s.length : Int) := by omega
                  obtain ⟨q0, q1, q2, q3, q4⟩ := id hbox
                  have k0 := cell_regrown q0
                  have k1 := cell_regrown q1
                  have k2 := cell_regrown (cell_stays hb c0)
                  have k3 := cell_regrown (cell_stays hb c1)
                  have hS := h.s.stays hb
                  clear hd1 hd2 hcc
                  by_cases hle : m.c < lastH (cAt m.s k).l
                  · go_wp2_with fail
                    refine wp_region_quiet_below (by kernel_rfl) (by kernel_rfl) ?_
                    repeat (go_big_quiet_step ((go_at_call 59; exact Calls.regrown_of (l1last_own _ m.s k _ (hS.stays (below_regrown _ _ _)) hs hlt))))
                    refine wpQuiet_nil ?_
                    intro w5 hw5
                    obtain ⟨⟨dq, osq⟩, hw6⟩ := hw5
                    have hb5 : Below _ _ w5 := hw6 ▸ below_regrown _ dq osq
                    clear hw6
                    go_wp2
                    go_ret
                    exact ⟨says_no fun h => by have := h.2.2.2.2.2.1 k hlt; omega, hb.trans (hb5.mono hb.size)⟩
                  · have hle' : decide (m.c < lastH (cAt m.s k).l) = false := by simpa using hle
                    go_wp2_with fail
                    refine wp_region_quiet_below (by kernel_rfl) (by kernel_rfl) ?_
                    repeat (go_big_quiet_step ((go_at_call 59; exact Calls.regrown_of (l1last_own _ m.s k _ (hS.stays (below_regrown _ _ _)) hs hlt))))
                    refine wpQuiet_nil ?_
                    intro w5 hw5
                    obtain ⟨⟨dq, osq⟩, hw6⟩ := hw5
                    have hb5 : Below _ _ w5 := hw6 ▸ below_regrown _ dq osq
                    clear hw6
                    have hlast : lastH (cAt m.s k).l ≤ m.c := by omega
                    go_wp2
                    go_roundw
                    case rel => exact ⟨k + 1, by omega, by go_num, hb.trans (hb5.mono hb.size), hbox.stays hb5, upto_succ hin hlast⟩
                    case measure => simp [intOf]; omega
                · have hlate : lateOk m := fun j hj => hin j (by omega)
                  clear hd1 hin
                  obtain ⟨q0, q1, q2, q3, q4⟩ := id hbox
                  go_wp2
                  clear q0 q1 q2 q3 q4
                  generalize wo = wp at *
                  go_loopw [4] (fun i wr => ∃ k : Nat, k ≤ m.x.length ∧ i = .int .i64 k ∧ Below w.heap.size w wr ∧ MBox wr w.heap.size (Value.slice a1 m.s.length cap1) m.c m.n (Value.slice a2 m.x.length cap2) (Value.slice a3 m.h.length cap3) ∧ ∀ j, j < k → txOk m j) (fun i _ => m.x.length - (intOf i).toNat)
                  case atStart => exact ⟨0, Nat.zero_le _, rfl, hb, hbox, fun j hj => absurd hj (Nat.not_lt_zero _)⟩
                  case round =>
                    rename World => wo
                    clear hb hbox hlt hk
                    obtain ⟨k, hk, rfl, hb, hbox, hin⟩ := hrel
                    by_cases hlt : k < m.x.length
                    · obtain ⟨b, off, rfl, hlo, hhi, hcc⟩ := hd2 (by omega)
                      obtain ⟨c0, c1, ca, cb, c2, c3⟩ := hcc k hlt
                      replace c0 := cell_stays hb c0
                      replace c1 := cell_stays hb c1
                      replace c2 := cell_stays hb c2
                      have i0 : (0 : Int) ≤ (k : Int) := by omega
                      have i1 : (k : Int) < (m.x.length : Int) := by omega
                      obtain ⟨q0, q1, q2, q3, q4⟩ := id hbox
                      have hA : Below wo.heap.size wo (wo.alloc (Obj.cells #[Value.int IntKind.i64 (tAt m.x k).i, Value.int IntKind.i64 (tAt m.x k).s, Value.slice ca (tAt m.x k).w.length cb] 97)) := (Below.refl _ _).alloc (Nat.le_refl _) _
                      have hBA := hb.trans (hA.mono hb.size)
                      have k1 := cell_regrown (cell_stays hA q1)
                      have k2 := cell_regrown (cell_stays hA q2)
                      have k3 := cell_regrown (cell_stays hA q3)
                      have k5 := cell_regrown (w := wo.alloc (Obj.cells #[Value.int IntKind.i64 (tAt m.x k).i, Value.int IntKind.i64 (tAt m.x k).s, Value.slice ca (tAt m.x k).w.length cb] 97)) (a := ⟨wo.heap.size, 0, none⟩) (v := .int .i64 (tAt m.x k).i) (by simp)
                      have k6 := cell_regrown (w := wo.alloc (Obj.cells #[Value.int IntKind.i64 (tAt m.x k).i, Value.int IntKind.i64 (tAt m.x k).s, Value.slice ca (tAt m.x k).w.length cb] 97)) (a := ⟨wo.heap.size, 1, none⟩) (v := .int .i64 (tAt m.x k).s) (by simp)
                      have k7 := cell_regrown (w := wo.alloc (Obj.cells #[Value.int IntKind.i64 (tAt m.x k).i, Value.int IntKind.i64 (tAt m.x k).s, Value.slice ca (tAt m.x k).w.length cb] 97)) (a := ⟨wo.heap.size, 2, none⟩) (v := .slice ca (tAt m.x k).w.length cb) (by simp)
                      have hR := (c3.stays hb).stays hA
                      go_wp2_with fail
                      by_cases g1 : (tAt m.x k).i < 1
                      · refine wp_region_quiet_below (by kernel_rfl) (by kernel_rfl) ?_
                        repeat (go_big_quiet_step (fail))
                        refine wpQuiet_nil ?_
                        intro w5 hw5
                        obtain ⟨⟨dq, osq⟩, hw6⟩ := hw5
                        have hb5 : Below _ _ w5 := hw6 ▸ below_regrown _ dq osq
                        clear hw6
                        go_wp2
                        go_ret
                        exact ⟨says_no fun h => by have := (h.2.2.2.2.2.2.2 k hlt).1; omega, hBA.trans (hb5.mono hBA.size)⟩
                      · have g1' : decide ((tAt m.x k).i < 1) = false := by simpa using g1
                        by_cases g2 : m.n ≤ (tAt m.x k).i
                        · refine wp_region_quiet_below (by kernel_rfl) (by kernel_rfl) ?_
                          repeat (go_big_quiet_step (fail))
                          refine wpQuiet_nil ?_
                          intro w5 hw5
                          obtain ⟨⟨dq, osq⟩, hw6⟩ := hw5
                          have hb5 : Below _ _ w5 := hw6 ▸ below_regrown _ dq osq
                          clear hw6
                          go_wp2
                          go_ret
                          exact ⟨says_no fun h => by have := (h.2.2.2.2.2.2.2 k hlt).2.1; omega, hBA.trans (hb5.mono hBA.size)⟩
                        · have g2' : decide (m.n ≤ (tAt m.x k).i) = false := by simpa using g2
                          by_cases hkp : (0 : Int) < (k : Int)
                          · have hkn : 0 < k := by omega
                            obtain ⟨p0, p1, pa, pb, p2, p3⟩ := hcc (k - 1) (by omega)
                            have k8 := cell_regrown (cell_stays hA (cell_stays hb p0))
                            by_cases g3 : (tAt m.x k).i ≤ (tAt m.x (k - 1)).i
                            · refine wp_region_quiet_below (by kernel_rfl) (by kernel_rfl) ?_
                              repeat (go_big_quiet_step (fail))
                              refine wpQuiet_nil ?_
                              intro w5 hw5
                              obtain ⟨⟨dq, osq⟩, hw6⟩ := hw5
                              have hb5 : Below _ _ w5 := hw6 ▸ below_regrown _ dq osq
                              clear hw6
                              go_wp2
                              go_ret
                              exact ⟨says_no fun h => by have := (h.2.2.2.2.2.2.2 k hlt).2.2.1 hkn; omega, hBA.trans (hb5.mono hBA.size)⟩
                            · have g3' : decide ((tAt m.x k).i ≤ (tAt m.x (k - 1)).i) = false := by simpa using g3
                              by_cases g4 : (tAt m.x k).s < 0
                              · refine wp_region_quiet_below (by kernel_rfl) (by kernel_rfl) ?_
                                repeat (go_big_quiet_step (fail))
                                refine wpQuiet_nil ?_
                                intro w5 hw5
                                obtain ⟨⟨dq, osq⟩, hw6⟩ := hw5
                                have hb5 : Below _ _ w5 := hw6 ▸ below_regrown _ dq osq
                                clear hw6
                                go_wp2
                                go_ret
                                exact ⟨says_no fun h => by have := (h.2.2.2.2.2.2.2 k hlt).2.2.2.1; omega, hBA.trans (hb5.mono hBA.size)⟩
                              · have g4' : decide ((tAt m.x k).s < 0) = false := by simpa using g4
                                by_cases g5 : m.c < (tAt m.x k).s
                                · refine wp_region_quiet_below (by kernel_rfl) (by kernel_rfl) ?_
                                  repeat (go_big_quiet_step (fail))
                                  refine wpQuiet_nil ?_
                                  intro w5 hw5
                                  obtain ⟨⟨dq, osq⟩, hw6⟩ := hw5
                                  have hb5 : Below _ _ w5 := hw6 ▸ below_regrown _ dq osq
                                  clear hw6
                                  go_wp2
                                  go_ret
                                  exact ⟨says_no fun h => by have := (h.2.2.2.2.2.2.2 k hlt).2.2.2.2.1; omega, hBA.trans (hb5.mono hBA.size)⟩
                                · have g5' : decide (m.c < (tAt m.x k).s) = false := by simpa using g5
                                  by_cases g6 : rowsOk (tAt m.x k).w
                                  · refine wp_region_quiet_below (by kernel_rfl) (by kernel_rfl) ?_
                                    repeat (go_big_quiet_step ((go_at_call 60; exact Calls.regrown_of (l2rowsOk_yes _ _ _ (hR.stays (below_regrown _ _ _)) g6))))
                                    refine wpQuiet_nil ?_
                                    intro w5 hw5
                                    obtain ⟨⟨dq, osq⟩, hw6⟩ := hw5
                                    have hb5 : Below _ _ w5 := hw6 ▸ below_regrown _ dq osq
                                    clear hw6
                                    have hlast : txOk m k := ⟨by omega, by omega, fun _ => by omega, by omega, by omega, g6⟩
                                    go_wp2
                                    go_roundw
                                    case rel => exact ⟨k + 1, by omega, by go_num, hBA.trans (hb5.mono hBA.size), (hbox.stays hA).stays hb5, upto_succ hin hlast⟩
                                    case measure => simp [intOf]; omega
                                  · refine wp_region_quiet_below (by kernel_rfl) (by kernel_rfl) ?_
                                    repeat (go_big_quiet_step ((go_at_call 60; exact Calls.regrown_of (l2rowsOk_no _ _ _ (hR.stays (below_regrown _ _ _)) g6))))
                                    refine wpQuiet_nil ?_
                                    intro w5 hw5
                                    obtain ⟨⟨dq, osq⟩, hw6⟩ := hw5
                                    have hb5 : Below _ _ w5 := hw6 ▸ below_regrown _ dq osq
                                    clear hw6
                                    go_wp2
                                    go_ret
                                    exact ⟨says_no fun h => g6 (h.2.2.2.2.2.2.2 k hlt).2.2.2.2.2, hBA.trans (hb5.mono hBA.size)⟩
                          · have hd : decide ((0 : Int) < (k : Int)) = false := by simpa using hkp
                            have hd' : decide (0 < k) = false := by simp; omega
                            by_cases g4 : (tAt m.x k).s < 0
                            · refine wp_region_quiet_below (by kernel_rfl) (by kernel_rfl) ?_
                              repeat (go_big_quiet_step (fail))
                              refine wpQuiet_nil ?_
                              intro w5 hw5
                              obtain ⟨⟨dq, osq⟩, hw6⟩ := hw5
                              have hb5 : Below _ _ w5 := hw6 ▸ below_regrown _ dq osq
                              clear hw6
                              go_wp2
                              go_ret
                              exact ⟨says_no fun h => by have := (h.2.2.2.2.2.2.2 k hlt).2.2.2.1; omega, hBA.trans (hb5.mono hBA.size)⟩
                            · have g4' : decide ((tAt m.x k).s < 0) = false := by simpa using g4
                              by_cases g5 : m.c < (tAt m.x k).s
                              · refine wp_region_quiet_below (by kernel_rfl) (by kernel_rfl) ?_
                                repeat (go_big_quiet_step (fail))
                                refine wpQuiet_nil ?_
                                intro w5 hw5
                                obtain ⟨⟨dq, osq⟩, hw6⟩ := hw5
                                have hb5 : Below _ _ w5 := hw6 ▸ below_regrown _ dq osq
                                clear hw6
                                go_wp2
                                go_ret
                                exact ⟨says_no fun h => by have := (h.2.2.2.2.2.2.2 k hlt).2.2.2.2.1; omega, hBA.trans (hb5.mono hBA.size)⟩
                              · have g5' : decide (m.c < (tAt m.x k).s) = false := by simpa using g5
                                by_cases g6 : rowsOk (tAt m.x k).w
                                · refine wp_region_quiet_below (by kernel_rfl) (by kernel_rfl) ?_
                                  repeat (go_big_quiet_step ((go_at_call 60; exact Calls.regrown_of (l2rowsOk_yes _ _ _ (hR.stays (below_regrown _ _ _)) g6))))
                                  refine wpQuiet_nil ?_
                                  intro w5 hw5
                                  obtain ⟨⟨dq, osq⟩, hw6⟩ := hw5
                                  have hb5 : Below _ _ w5 := hw6 ▸ below_regrown _ dq osq
                                  clear hw6
                                  have hlast : txOk m k := ⟨by omega, by omega, fun h => by omega, by omega, by omega, g6⟩
                                  go_wp2
                                  go_roundw
                                  case rel => exact ⟨k + 1, by omega, by go_num, hBA.trans (hb5.mono hBA.size), (hbox.stays hA).stays hb5, upto_succ hin hlast⟩
                                  case measure => simp [intOf]; omega
                                · refine wp_region_quiet_below (by kernel_rfl) (by kernel_rfl) ?_
                                  repeat (go_big_quiet_step ((go_at_call 60; exact Calls.regrown_of (l2rowsOk_no _ _ _ (hR.stays (below_regrown _ _ _)) g6))))
                                  refine wpQuiet_nil ?_
                                  intro w5 hw5
                                  obtain ⟨⟨dq, osq⟩, hw6⟩ := hw5
                                  have hb5 : Below _ _ w5 := hw6 ▸ below_regrown _ dq osq
                                  clear hw6
                                  go_wp2
                                  go_ret
                                  exact ⟨says_no fun h => g6 (h.2.2.2.2.2.2.2 k hlt).2.2.2.2.2, hBA.trans (hb5.mono hBA.size)⟩
                    · obtain ⟨q0, q1, q2, q3, q4⟩ := id hbox
                      go_wp2
                      go_ret
                      exact ⟨says_yes ⟨hs, HH.out, by omega, by omega, by omega, hlate, by omega, fun j hj => hin j (by omega)⟩, hb⟩
    · have hh' : hourB m.c = false := by simpa using hh
      go_wp2_with (first | (go_at_call 57; refine (specStoreOk_yes _ m.s _ hM.s hs).mono ?_; rintro e w1 ⟨rfl, hb1⟩; have hB1 := hB.stays hb1; obtain ⟨q0, q1, q2, q3, q4⟩ := id hB1) | (go_at_call 58; refine (l1hour_any _ _).mono ?_; rintro e w2 ⟨rfl, rfl⟩))
      go_ret
      exact ⟨says_no fun h => hh h.2.1, hbx.trans (hb1.mono hbx.size)⟩
  · go_wp2_with (first | (go_at_call 57; refine (specStoreOk_no _ m.s _ hM.s hs).mono ?_; rintro e w1 ⟨rfl, hb1⟩))
    go_ret
    exact ⟨says_no fun h => hs h.1, hbx.trans (hb1.mono hbx.size)⟩

end Go.Proofs.YtmecbppblbmchaaGreatDoor
