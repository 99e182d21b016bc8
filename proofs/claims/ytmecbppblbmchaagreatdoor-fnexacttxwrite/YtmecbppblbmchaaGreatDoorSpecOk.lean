import Derived.Test.YtmecbppblbmchaaGreatDoorOk
/- The specification's own StoreOk: what it is to be a store. -/
namespace Go.Proofs.YtmecbppblbmchaaGreatDoor
open Go.ChangeShapes Go.WideShapes Go.ChangeAt Go.RowKit Go.Sort
set_option linter.unusedVariables false
set_option maxRecDepth 100000

set_option maxHeartbeats 4000000 in
theorem specStoreOk_any (v : Value) (l : List Ch) (w : World) {lo hi : Nat} (h : ChainsAt lo hi w v l) :
    Calls Tryz.prog 57 #[.agg #[v]] w fun e w' => Says e (storeOk l) ∧ Below w.heap.size w w' := by
  obtain ⟨a, cap, rfl, hm, hc⟩ := h
  unfold maxLen at hm
  have hbx : Below w.heap.size w (w.alloc (Obj.cells #[Value.slice a l.length cap] 32)) := (Below.refl _ _).alloc (Nat.le_refl _) _
  by_cases h2 : 200 < l.length
  · clear hc
    go_enter Tryz.func57, Tryz.ntmps57
    go_wp2
    go_ret
    exact ⟨says_no fun h => by have := h.1; omega, hbx⟩
  · go_enter Tryz.func57, Tryz.ntmps57
    go_wp2
    go_loopw [3] (fun i wr => ∃ k : Nat, k ≤ l.length ∧ i = .int .i64 k ∧ Below w.heap.size w wr ∧ wr.cell? ⟨w.heap.size, 0, none⟩ = some (.slice a l.length cap) ∧ ∀ j, j < k → chainOk l j) (fun i _ => l.length - (intOf i).toNat)
    case atStart => exact ⟨0, Nat.zero_le _, rfl, hbx, by simp, fun j hj => absurd hj (Nat.not_lt_zero _)⟩
    case round =>
      rename World => wo
      obtain ⟨k, hk, rfl, hb, hp, hs⟩ := hrel
      by_cases hlt : k < l.length
      · obtain ⟨b, off, rfl, hlo, hhi, hcc⟩ := hc (by omega)
        obtain ⟨c0, c1, ca, cb, c2, c3⟩ := hcc k hlt
        replace c0 := cell_stays hb c0
        replace c1 := cell_stays hb c1
        replace c2 := cell_stays hb c2
        have i0 : (0 : Int) ≤ (k : Int) := by omega
        have i1 : (k : Int) < (l.length : Int) := by omega
        clear hc
        have hA : Below wo.heap.size wo (wo.alloc (Obj.cells #[Value.int IntKind.i64 (cAt l k).t, Value.int IntKind.i64 (cAt l k).r, Value.slice ca (cAt l k).l.length cb] 94)) := (Below.refl _ _).alloc (Nat.le_refl _) _
        have k0 := cell_regrown (cell_stays hA hp)
        have k3 := cell_regrown (w := wo.alloc (Obj.cells #[Value.int IntKind.i64 (cAt l k).t, Value.int IntKind.i64 (cAt l k).r, Value.slice ca (cAt l k).l.length cb] 94)) (a := ⟨wo.heap.size, 0, none⟩) (v := .int .i64 (cAt l k).t) (by simp)
        have k4 := cell_regrown (w := wo.alloc (Obj.cells #[Value.int IntKind.i64 (cAt l k).t, Value.int IntKind.i64 (cAt l k).r, Value.slice ca (cAt l k).l.length cb] 94)) (a := ⟨wo.heap.size, 1, none⟩) (v := .int .i64 (cAt l k).r) (by simp)
        have k5 := cell_regrown (w := wo.alloc (Obj.cells #[Value.int IntKind.i64 (cAt l k).t, Value.int IntKind.i64 (cAt l k).r, Value.slice ca (cAt l k).l.length cb] 94)) (a := ⟨wo.heap.size, 2, none⟩) (v := .slice ca (cAt l k).l.length cb) (by simp)
        by_cases ht : tabB (cAt l k).t = true
        · --MAIN
          by_cases hkp : (0 : Int) < (k : Int)
          · have hkn : 0 < k := by omega
            obtain ⟨p0, p1, pa, pb, p2, p3⟩ := hcc (k - 1) (by omega)
            replace p0 := cell_stays hb p0
            replace p1 := cell_stays hb p1
            have k1 := cell_regrown (cell_stays hA p0)
            have k2 := cell_regrown (cell_stays hA p1)
            by_cases hkl : klB (cAt l (k - 1)).t (cAt l (k - 1)).r (cAt l k).t (cAt l k).r = true
            · by_cases h3 : (cAt l k).l.length < 1
              · have h3i : ((cAt l k).l.length : Int) < 1 := by omega
                go_wp2_with fail
                refine wp_region_quiet_below (by kernel_rfl) (by kernel_rfl) ?_
                repeat (go_big_quiet_step (first | (go_at_call 46; exact Calls.regrown_of (l1table_any _ _ _)) | (go_at_call 99; exact Calls.regrown_of (specKeyLess_any _ _ _ _ _))))
                refine wpQuiet_nil ?_
                intro w2 hw2
                obtain ⟨⟨dq, osq⟩, hw3⟩ := hw2
                have hb2 : Below _ _ w2 := hw3 ▸ below_regrown _ dq osq
                clear hw3
                have hB := hb.trans ((hA.trans (hb2.mono hA.size)).mono hb.size)
                go_wp2
                go_ret
                exact ⟨says_no fun h => by have := (h.2 k hlt).2.2.1; omega, hB⟩
              · have h3i : decide (((cAt l k).l.length : Int) < 1) = false := by rw [decide_eq_false_iff_not]; omega
                by_cases h4 : 200 < (cAt l k).l.length
                · have h4i : (200 : Int) < ((cAt l k).l.length : Int) := by omega
                  go_wp2_with fail
                  refine wp_region_quiet_below (by kernel_rfl) (by kernel_rfl) ?_
                  repeat (go_big_quiet_step (first | (go_at_call 46; exact Calls.regrown_of (l1table_any _ _ _)) | (go_at_call 99; exact Calls.regrown_of (specKeyLess_any _ _ _ _ _))))
                  refine wpQuiet_nil ?_
                  intro w2 hw2
                  obtain ⟨⟨dq, osq⟩, hw3⟩ := hw2
                  have hb2 : Below _ _ w2 := hw3 ▸ below_regrown _ dq osq
                  clear hw3
                  have hB := hb.trans ((hA.trans (hb2.mono hA.size)).mono hb.size)
                  go_wp2
                  go_ret
                  exact ⟨says_no fun h => by have := (h.2 k hlt).2.2.2.1; omega, hB⟩
                · have h4i : decide ((200 : Int) < ((cAt l k).l.length : Int)) = false := by rw [decide_eq_false_iff_not]; omega
                  go_wp2_with fail
                  refine wp_region_quiet_below (by kernel_rfl) (by kernel_rfl) ?_
                  repeat (go_big_quiet_step (first | (go_at_call 46; exact Calls.regrown_of (l1table_any _ _ _)) | (go_at_call 99; exact Calls.regrown_of (specKeyLess_any _ _ _ _ _))))
                  refine wpQuiet_nil ?_
                  intro w2 hw2
                  obtain ⟨⟨dq, osq⟩, hw3⟩ := hw2
                  have hb2 : Below _ _ w2 := hw3 ▸ below_regrown _ dq osq
                  clear hw3
                  have hB := hb.trans ((hA.trans (hb2.mono hA.size)).mono hb.size)
                  have HT : Hid (tabB (cAt l k).t = true) := ht
                  have HK : Hid (klB (cAt l (k - 1)).t (cAt l (k - 1)).r (cAt l k).t (cAt l k).r = true) := hkl
                  clear ht hkl
                  have hP := cell_stays hb2 (cell_stays hA hp)
                  have hC : w2.cell? ⟨wo.heap.size, 2, none⟩ = some (.slice ca (cAt l k).l.length cb) := cell_stays hb2 (by simp)
                  obtain ⟨a2, cap2, e2, hm2, hc2⟩ := c3
                  injection e2 with e2a e2b e2c
                  subst e2a e2c
                  clear e2b k0 k3 k4 k5 c0 c1 c2 i0 i1
                  unfold maxLen at hm2
                  go_wp2
                  go_loopw [5] (fun i wx => ∃ q : Nat, q ≤ (cAt l k).l.length ∧ i = .int .i64 q ∧ Below w.heap.size w wx ∧ wx.cell? ⟨w.heap.size, 0, none⟩ = some (.slice (some ⟨b, off, none⟩) l.length cap) ∧ wx.cell? ⟨wo.heap.size, 2, none⟩ = some (.slice ca (cAt l k).l.length cb) ∧ ∀ j, j < q → verOk (cAt l k).l j) (fun i _ => (cAt l k).l.length - (intOf i).toNat)
                  case atStart => exact ⟨0, Nat.zero_le _, rfl, hB, hP, hC, fun j hj => absurd hj (Nat.not_lt_zero _)⟩
                  case round =>
                    rename World => wx
                    obtain ⟨q, hq, rfl, hBx, hPx, hCx, hsx⟩ := hrel
                    by_cases hql : q < (cAt l k).l.length
                    · obtain ⟨b2, off2, rfl, _, _, hcc2⟩ := hc2 (by omega)
                      have d0 := cell_stays hBx (hcc2 q hql).1
                      have m0 := cell_regrown d0
                      have m1 := cell_regrown hCx
                      have j0 : (0 : Int) ≤ (q : Int) := by omega
                      have j1 : (q : Int) < ((cAt l k).l.length : Int) := by omega
                      by_cases g1 : (vAt (cAt l k).l q).1 < 1
                      · go_wp2_with fail
                        refine wp_region_quiet_below (by kernel_rfl) (by kernel_rfl) ?_
                        repeat (go_big_quiet_step (fail))
                        refine wpQuiet_nil ?_
                        intro w3 hw4
                        obtain ⟨⟨dq, osq⟩, hw5⟩ := hw4
                        have hb3 : Below _ _ w3 := hw5 ▸ below_regrown _ dq osq
                        clear hw5
                        have hB3 := hBx.trans (hb3.mono hBx.size)
                        go_wp2
                        go_ret
                        exact ⟨says_no fun h => by have := ((h.2 k hlt).2.2.2.2 q hql).1; omega, hB3⟩
                      · have g1d : decide ((vAt (cAt l k).l q).1 < 1) = false := by rw [decide_eq_false_iff_not]; exact g1
                        by_cases g2 : 1000000 < (vAt (cAt l k).l q).1
                        · go_wp2_with fail
                          refine wp_region_quiet_below (by kernel_rfl) (by kernel_rfl) ?_
                          repeat (go_big_quiet_step (fail))
                          refine wpQuiet_nil ?_
                          intro w3 hw4
                          obtain ⟨⟨dq, osq⟩, hw5⟩ := hw4
                          have hb3 : Below _ _ w3 := hw5 ▸ below_regrown _ dq osq
                          clear hw5
                          have hB3 := hBx.trans (hb3.mono hBx.size)
                          go_wp2
                          go_ret
                          exact ⟨says_no fun h => by have := ((h.2 k hlt).2.2.2.2 q hql).2.1; omega, hB3⟩
                        · have g2d : decide (1000000 < (vAt (cAt l k).l q).1) = false := by rw [decide_eq_false_iff_not]; exact g2
                          by_cases hqp : (0 : Int) < (q : Int)
                          · have hqn : 0 < q := by omega
                            have m2 := cell_regrown (cell_stays hBx (hcc2 (q - 1) (by omega)).1)
                            by_cases g3 : (vAt (cAt l k).l q).1 ≤ (vAt (cAt l k).l (q - 1)).1
                            · go_wp2_with fail
                              refine wp_region_quiet_below (by kernel_rfl) (by kernel_rfl) ?_
                              repeat (go_big_quiet_step (fail))
                              refine wpQuiet_nil ?_
                              intro w3 hw4
                              obtain ⟨⟨dq, osq⟩, hw5⟩ := hw4
                              have hb3 : Below _ _ w3 := hw5 ▸ below_regrown _ dq osq
                              clear hw5
                              have hB3 := hBx.trans (hb3.mono hBx.size)
                              go_wp2
                              go_ret
                              exact ⟨says_no fun h => by have := ((h.2 k hlt).2.2.2.2 q hql).2.2 hqn; omega, hB3⟩
                            · have g3d : decide ((vAt (cAt l k).l q).1 ≤ (vAt (cAt l k).l (q - 1)).1) = false := by rw [decide_eq_false_iff_not]; exact g3
                              have hlastv : verOk (cAt l k).l q := ⟨by omega, by omega, fun _ => by omega⟩
                              go_wp2_with fail
                              refine wp_region_quiet_below (by kernel_rfl) (by kernel_rfl) ?_
                              repeat (go_big_quiet_step (fail))
                              refine wpQuiet_nil ?_
                              intro w3 hw4
                              obtain ⟨⟨dq, osq⟩, hw5⟩ := hw4
                              have hb3 : Below _ _ w3 := hw5 ▸ below_regrown _ dq osq
                              clear hw5
                              have hB3 := hBx.trans (hb3.mono hBx.size)
                              go_wp2
                              go_roundw
                              case rel => first | exact ⟨q + 1, by omega, by go_num, hB3, cell_stays hb3 hPx, cell_stays hb3 hCx, upto_succ hsx hlastv⟩ | ((repeat apply Exists.intro); exact ⟨⟨q + 1, by omega, by go_num, hB3, cell_stays hb3 hPx, cell_stays hb3 hCx, upto_succ hsx hlastv⟩, rfl⟩)
                              case measure => simp [intOf]; omega
                          · have hqd : decide ((0 : Int) < (q : Int)) = false := by rw [decide_eq_false_iff_not]; exact hqp
                            have hqd' : decide (0 < q) = false := by rw [decide_eq_false_iff_not]; omega
                            have hlastv : verOk (cAt l k).l q := ⟨by omega, by omega, fun h => by omega⟩
                            go_wp2_with fail
                            refine wp_region_quiet_below (by kernel_rfl) (by kernel_rfl) ?_
                            repeat (go_big_quiet_step (fail))
                            refine wpQuiet_nil ?_
                            intro w3 hw4
                            obtain ⟨⟨dq, osq⟩, hw5⟩ := hw4
                            have hb3 : Below _ _ w3 := hw5 ▸ below_regrown _ dq osq
                            clear hw5
                            have hB3 := hBx.trans (hb3.mono hBx.size)
                            go_wp2
                            go_roundw
                            case rel => first | exact ⟨q + 1, by omega, by go_num, hB3, cell_stays hb3 hPx, cell_stays hb3 hCx, upto_succ hsx hlastv⟩ | ((repeat apply Exists.intro); exact ⟨⟨q + 1, by omega, by go_num, hB3, cell_stays hb3 hPx, cell_stays hb3 hCx, upto_succ hsx hlastv⟩, rfl⟩)
                            case measure => simp [intOf]; omega
                    · have hlast : chainOk l k := ⟨HT.out, fun _ => HK.out, ⟨by omega, by omega, fun j hj => hsx j (by omega)⟩⟩
                      go_wp2
                      go_roundw
                      case rel => exact ⟨k + 1, by omega, by go_num, hBx, hPx, upto_succ hs hlast⟩
                      case measure => simp [intOf]; omega
            · have hkl' : klB (cAt l (k - 1)).t (cAt l (k - 1)).r (cAt l k).t (cAt l k).r = false := by simpa using hkl
              go_wp2_with fail
              refine wp_region_quiet_below (by kernel_rfl) (by kernel_rfl) ?_
              repeat (go_big_quiet_step (first | (go_at_call 46; exact Calls.regrown_of (l1table_any _ _ _)) | (go_at_call 99; exact Calls.regrown_of (specKeyLess_any _ _ _ _ _))))
              refine wpQuiet_nil ?_
              intro w2 hw2
              obtain ⟨⟨dq, osq⟩, hw3⟩ := hw2
              have hb2 : Below _ _ w2 := hw3 ▸ below_regrown _ dq osq
              clear hw3
              have hB := hb.trans ((hA.trans (hb2.mono hA.size)).mono hb.size)
              go_wp2
              go_ret
              exact ⟨says_no fun h => hkl ((h.2 k hlt).2.1 hkn), hB⟩
          · have hd : decide ((0 : Int) < (k : Int)) = false := by simpa using hkp
            have hd' : decide (0 < k) = false := by rw [decide_eq_false_iff_not]; omega
            by_cases h3 : (cAt l k).l.length < 1
            · have h3i : ((cAt l k).l.length : Int) < 1 := by omega
              go_wp2_with fail
              refine wp_region_quiet_below (by kernel_rfl) (by kernel_rfl) ?_
              repeat (go_big_quiet_step (first | (go_at_call 46; exact Calls.regrown_of (l1table_any _ _ _)) | (go_at_call 99; exact Calls.regrown_of (specKeyLess_any _ _ _ _ _))))
              refine wpQuiet_nil ?_
              intro w2 hw2
              obtain ⟨⟨dq, osq⟩, hw3⟩ := hw2
              have hb2 : Below _ _ w2 := hw3 ▸ below_regrown _ dq osq
              clear hw3
              have hB := hb.trans ((hA.trans (hb2.mono hA.size)).mono hb.size)
              go_wp2
              go_ret
              exact ⟨says_no fun h => by have := (h.2 k hlt).2.2.1; omega, hB⟩
            · have h3i : decide (((cAt l k).l.length : Int) < 1) = false := by rw [decide_eq_false_iff_not]; omega
              by_cases h4 : 200 < (cAt l k).l.length
              · have h4i : (200 : Int) < ((cAt l k).l.length : Int) := by omega
                go_wp2_with fail
                refine wp_region_quiet_below (by kernel_rfl) (by kernel_rfl) ?_
                repeat (go_big_quiet_step (first | (go_at_call 46; exact Calls.regrown_of (l1table_any _ _ _)) | (go_at_call 99; exact Calls.regrown_of (specKeyLess_any _ _ _ _ _))))
                refine wpQuiet_nil ?_
                intro w2 hw2
                obtain ⟨⟨dq, osq⟩, hw3⟩ := hw2
                have hb2 : Below _ _ w2 := hw3 ▸ below_regrown _ dq osq
                clear hw3
                have hB := hb.trans ((hA.trans (hb2.mono hA.size)).mono hb.size)
                go_wp2
                go_ret
                exact ⟨says_no fun h => by have := (h.2 k hlt).2.2.2.1; omega, hB⟩
              · have h4i : decide ((200 : Int) < ((cAt l k).l.length : Int)) = false := by rw [decide_eq_false_iff_not]; omega
                go_wp2_with fail
                refine wp_region_quiet_below (by kernel_rfl) (by kernel_rfl) ?_
                repeat (go_big_quiet_step (first | (go_at_call 46; exact Calls.regrown_of (l1table_any _ _ _)) | (go_at_call 99; exact Calls.regrown_of (specKeyLess_any _ _ _ _ _))))
                refine wpQuiet_nil ?_
                intro w2 hw2
                obtain ⟨⟨dq, osq⟩, hw3⟩ := hw2
                have hb2 : Below _ _ w2 := hw3 ▸ below_regrown _ dq osq
                clear hw3
                have hB := hb.trans ((hA.trans (hb2.mono hA.size)).mono hb.size)
                have HT : Hid (tabB (cAt l k).t = true) := ht
                clear ht
                have hP := cell_stays hb2 (cell_stays hA hp)
                have hC : w2.cell? ⟨wo.heap.size, 2, none⟩ = some (.slice ca (cAt l k).l.length cb) := cell_stays hb2 (by simp)
                obtain ⟨a2, cap2, e2, hm2, hc2⟩ := c3
                injection e2 with e2a e2b e2c
                subst e2a e2c
                clear e2b k0 k3 k4 k5 c0 c1 c2 i0 i1
                unfold maxLen at hm2
                go_wp2
                go_loopw [5] (fun i wx => ∃ q : Nat, q ≤ (cAt l k).l.length ∧ i = .int .i64 q ∧ Below w.heap.size w wx ∧ wx.cell? ⟨w.heap.size, 0, none⟩ = some (.slice (some ⟨b, off, none⟩) l.length cap) ∧ wx.cell? ⟨wo.heap.size, 2, none⟩ = some (.slice ca (cAt l k).l.length cb) ∧ ∀ j, j < q → verOk (cAt l k).l j) (fun i _ => (cAt l k).l.length - (intOf i).toNat)
                case atStart => exact ⟨0, Nat.zero_le _, rfl, hB, hP, hC, fun j hj => absurd hj (Nat.not_lt_zero _)⟩
                case round =>
                  rename World => wx
                  obtain ⟨q, hq, rfl, hBx, hPx, hCx, hsx⟩ := hrel
                  by_cases hql : q < (cAt l k).l.length
                  · obtain ⟨b2, off2, rfl, _, _, hcc2⟩ := hc2 (by omega)
                    have d0 := cell_stays hBx (hcc2 q hql).1
                    have m0 := cell_regrown d0
                    have m1 := cell_regrown hCx
                    have j0 : (0 : Int) ≤ (q : Int) := by omega
                    have j1 : (q : Int) < ((cAt l k).l.length : Int) := by omega
                    by_cases g1 : (vAt (cAt l k).l q).1 < 1
                    · go_wp2_with fail
                      refine wp_region_quiet_below (by kernel_rfl) (by kernel_rfl) ?_
                      repeat (go_big_quiet_step (fail))
                      refine wpQuiet_nil ?_
                      intro w3 hw4
                      obtain ⟨⟨dq, osq⟩, hw5⟩ := hw4
                      have hb3 : Below _ _ w3 := hw5 ▸ below_regrown _ dq osq
                      clear hw5
                      have hB3 := hBx.trans (hb3.mono hBx.size)
                      go_wp2
                      go_ret
                      exact ⟨says_no fun h => by have := ((h.2 k hlt).2.2.2.2 q hql).1; omega, hB3⟩
                    · have g1d : decide ((vAt (cAt l k).l q).1 < 1) = false := by rw [decide_eq_false_iff_not]; exact g1
                      by_cases g2 : 1000000 < (vAt (cAt l k).l q).1
                      · go_wp2_with fail
                        refine wp_region_quiet_below (by kernel_rfl) (by kernel_rfl) ?_
                        repeat (go_big_quiet_step (fail))
                        refine wpQuiet_nil ?_
                        intro w3 hw4
                        obtain ⟨⟨dq, osq⟩, hw5⟩ := hw4
                        have hb3 : Below _ _ w3 := hw5 ▸ below_regrown _ dq osq
                        clear hw5
                        have hB3 := hBx.trans (hb3.mono hBx.size)
                        go_wp2
                        go_ret
                        exact ⟨says_no fun h => by have := ((h.2 k hlt).2.2.2.2 q hql).2.1; omega, hB3⟩
                      · have g2d : decide (1000000 < (vAt (cAt l k).l q).1) = false := by rw [decide_eq_false_iff_not]; exact g2
                        by_cases hqp : (0 : Int) < (q : Int)
                        · have hqn : 0 < q := by omega
                          have m2 := cell_regrown (cell_stays hBx (hcc2 (q - 1) (by omega)).1)
                          by_cases g3 : (vAt (cAt l k).l q).1 ≤ (vAt (cAt l k).l (q - 1)).1
                          · go_wp2_with fail
                            refine wp_region_quiet_below (by kernel_rfl) (by kernel_rfl) ?_
                            repeat (go_big_quiet_step (fail))
                            refine wpQuiet_nil ?_
                            intro w3 hw4
                            obtain ⟨⟨dq, osq⟩, hw5⟩ := hw4
                            have hb3 : Below _ _ w3 := hw5 ▸ below_regrown _ dq osq
                            clear hw5
                            have hB3 := hBx.trans (hb3.mono hBx.size)
                            go_wp2
                            go_ret
                            exact ⟨says_no fun h => by have := ((h.2 k hlt).2.2.2.2 q hql).2.2 hqn; omega, hB3⟩
                          · have g3d : decide ((vAt (cAt l k).l q).1 ≤ (vAt (cAt l k).l (q - 1)).1) = false := by rw [decide_eq_false_iff_not]; exact g3
                            have hlastv : verOk (cAt l k).l q := ⟨by omega, by omega, fun _ => by omega⟩
                            go_wp2_with fail
                            refine wp_region_quiet_below (by kernel_rfl) (by kernel_rfl) ?_
                            repeat (go_big_quiet_step (fail))
                            refine wpQuiet_nil ?_
                            intro w3 hw4
                            obtain ⟨⟨dq, osq⟩, hw5⟩ := hw4
                            have hb3 : Below _ _ w3 := hw5 ▸ below_regrown _ dq osq
                            clear hw5
                            have hB3 := hBx.trans (hb3.mono hBx.size)
                            go_wp2
                            go_roundw
                            case rel => first | exact ⟨q + 1, by omega, by go_num, hB3, cell_stays hb3 hPx, cell_stays hb3 hCx, upto_succ hsx hlastv⟩ | ((repeat apply Exists.intro); exact ⟨⟨q + 1, by omega, by go_num, hB3, cell_stays hb3 hPx, cell_stays hb3 hCx, upto_succ hsx hlastv⟩, rfl⟩)
                            case measure => simp [intOf]; omega
                        · have hqd : decide ((0 : Int) < (q : Int)) = false := by rw [decide_eq_false_iff_not]; exact hqp
                          have hqd' : decide (0 < q) = false := by rw [decide_eq_false_iff_not]; omega
                          have hlastv : verOk (cAt l k).l q := ⟨by omega, by omega, fun h => by omega⟩
                          go_wp2_with fail
                          refine wp_region_quiet_below (by kernel_rfl) (by kernel_rfl) ?_
                          repeat (go_big_quiet_step (fail))
                          refine wpQuiet_nil ?_
                          intro w3 hw4
                          obtain ⟨⟨dq, osq⟩, hw5⟩ := hw4
                          have hb3 : Below _ _ w3 := hw5 ▸ below_regrown _ dq osq
                          clear hw5
                          have hB3 := hBx.trans (hb3.mono hBx.size)
                          go_wp2
                          go_roundw
                          case rel => first | exact ⟨q + 1, by omega, by go_num, hB3, cell_stays hb3 hPx, cell_stays hb3 hCx, upto_succ hsx hlastv⟩ | ((repeat apply Exists.intro); exact ⟨⟨q + 1, by omega, by go_num, hB3, cell_stays hb3 hPx, cell_stays hb3 hCx, upto_succ hsx hlastv⟩, rfl⟩)
                          case measure => simp [intOf]; omega
                  · have hlast : chainOk l k := ⟨HT.out, fun h => by omega, ⟨by omega, by omega, fun j hj => hsx j (by omega)⟩⟩
                    go_wp2
                    go_roundw
                    case rel => exact ⟨k + 1, by omega, by go_num, hBx, hPx, upto_succ hs hlast⟩
                    case measure => simp [intOf]; omega
        · have ht' : tabB (cAt l k).t = false := by simpa using ht
          go_wp2_with fail
          refine wp_region_quiet_below (by kernel_rfl) (by kernel_rfl) ?_
          repeat (go_big_quiet_step ((go_at_call 46; exact Calls.regrown_of (l1table_any _ _ _))))
          refine wpQuiet_nil ?_
          intro w2 hw2
          obtain ⟨⟨dq, osq⟩, hw3⟩ := hw2
          have hb2 : Below _ _ w2 := hw3 ▸ below_regrown _ dq osq
          clear hw3
          go_wp2
          go_ret
          exact ⟨says_no fun h => ht (h.2 k hlt).1, hb.trans ((hA.trans (hb2.mono hA.size)).mono hb.size)⟩
      · go_wp2
        go_ret
        exact ⟨says_yes ⟨by omega, fun j hj => hs j (by omega)⟩, hb⟩

end Go.Proofs.YtmecbppblbmchaaGreatDoor
