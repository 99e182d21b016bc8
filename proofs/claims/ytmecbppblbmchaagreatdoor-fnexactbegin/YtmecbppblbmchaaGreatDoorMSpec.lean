import Derived.Test.YtmecbppblbmchaaGreatDoorCopyG
/- The specification's MgrOk: it is what it is to be a state of the whole. -/
namespace Go.Proofs.YtmecbppblbmchaaGreatDoor
open Go.ChangeShapes Go.WideShapes Go.ChangeAt Go.RowKit Go.Sort
set_option linter.unusedVariables false
set_option maxRecDepth 100000
attribute [local go_sem ↓] Go.wp_at_zero Go.wp_at_succ

set_option maxHeartbeats 1000000 in
theorem l2rowsOk_any (v : Value) (l : List Rw) (w : World) {lo hi : Nat} (h : RowsAt lo hi w v l) :
    Calls Tryz.prog 60 #[v] w fun e w' => Says e (rowsOk l) ∧ Below w.heap.size w w' := by
  obtain ⟨a, cap, rfl, hm, hc⟩ := h
  unfold maxLen at hm
  by_cases h2 : 60 < l.length
  · clear hc
    go_enter Tryz.func60, Tryz.ntmps60
    go_wp2
    go_ret
    exact ⟨says_no fun h => by have := h.1; omega, Below.refl _ _⟩
  · go_enter Tryz.func60, Tryz.ntmps60
    go_wp2
    go_loopw [3] (fun i wr => ∃ k : Nat, k ≤ l.length ∧ i = .int .i64 k ∧ Below w.heap.size w wr ∧ ∀ j, j < k → rowOk l j) (fun i _ => l.length - (intOf i).toNat)
    case atStart => exact ⟨0, Nat.zero_le _, rfl, Below.refl _ _, fun j hj => absurd hj (Nat.not_lt_zero _)⟩
    case round =>
      rename World => wo
      obtain ⟨k, hk, rfl, hb, hs⟩ := hrel
      by_cases hlt : k < l.length
      · obtain ⟨b, off, rfl, hlo, hhi, hcc⟩ := hc (by omega)
        obtain ⟨c0, c1, c2⟩ := hcc k hlt
        have i0 : (0 : Int) ≤ (k : Int) := by omega
        have i1 : (k : Int) < (l.length : Int) := by omega
        clear hc
        have k3 := cell_regrown (cell_stays hb c0)
        have k4 := cell_regrown (cell_stays hb c1)
        by_cases ht : tabB (rAt l k).t = true
        · by_cases hkp : (0 : Int) < (k : Int)
          · have hkn : 0 < k := by omega
            obtain ⟨p0, p1, p2⟩ := hcc (k - 1) (by omega)
            have k1 := cell_regrown (cell_stays hb p0)
            have k2 := cell_regrown (cell_stays hb p1)
            by_cases hkl : klB (rAt l (k - 1)).t (rAt l (k - 1)).r (rAt l k).t (rAt l k).r = true
            · go_wp2_with fail
              refine wp_region_quiet_below (by kernel_rfl) (by kernel_rfl) ?_
              repeat (go_big_quiet_step (first | (go_at_call 46; exact Calls.regrown_of (l1table_any _ _ _)) | (go_at_call 99; exact Calls.regrown_of (specKeyLess_any _ _ _ _ _))))
              refine wpQuiet_nil ?_
              intro w2 hw2
              obtain ⟨⟨dq, osq⟩, hw3⟩ := hw2
              have hb2 : Below _ _ w2 := hw3 ▸ below_regrown _ dq osq
              clear hw3
              have hB := hb.trans (hb2.mono hb.size)
              have hlast : rowOk l k := ⟨ht, fun _ => hkl⟩
              go_wp2
              go_roundw
              case rel => exact ⟨k + 1, by omega, by go_num, hB, upto_succ hs hlast⟩
              case measure => simp [intOf]; omega
            · have hkl' : klB (rAt l (k - 1)).t (rAt l (k - 1)).r (rAt l k).t (rAt l k).r = false := by simpa using hkl
              go_wp2_with fail
              refine wp_region_quiet_below (by kernel_rfl) (by kernel_rfl) ?_
              repeat (go_big_quiet_step (first | (go_at_call 46; exact Calls.regrown_of (l1table_any _ _ _)) | (go_at_call 99; exact Calls.regrown_of (specKeyLess_any _ _ _ _ _))))
              refine wpQuiet_nil ?_
              intro w2 hw2
              obtain ⟨⟨dq, osq⟩, hw3⟩ := hw2
              have hb2 : Below _ _ w2 := hw3 ▸ below_regrown _ dq osq
              clear hw3
              have hB := hb.trans (hb2.mono hb.size)
              go_wp2
              go_ret
              exact ⟨says_no fun h => hkl ((h.2 k hlt).2 hkn), hB⟩
          · have hd : decide ((0 : Int) < (k : Int)) = false := by simpa using hkp
            have hd' : decide (0 < k) = false := by simp; omega
            go_wp2_with fail
            refine wp_region_quiet_below (by kernel_rfl) (by kernel_rfl) ?_
            repeat (go_big_quiet_step (first | (go_at_call 46; exact Calls.regrown_of (l1table_any _ _ _))))
            refine wpQuiet_nil ?_
            intro w2 hw2
            obtain ⟨⟨dq, osq⟩, hw3⟩ := hw2
            have hb2 : Below _ _ w2 := hw3 ▸ below_regrown _ dq osq
            clear hw3
            have hB := hb.trans (hb2.mono hb.size)
            have hlast : rowOk l k := ⟨ht, fun h => by omega⟩
            go_wp2
            go_roundw
            case rel => exact ⟨k + 1, by omega, by go_num, hB, upto_succ hs hlast⟩
            case measure => simp [intOf]; omega
        · have ht' : tabB (rAt l k).t = false := by simpa using ht
          go_wp2_with fail
          refine wp_region_quiet_below (by kernel_rfl) (by kernel_rfl) ?_
          repeat (go_big_quiet_step (first | (go_at_call 46; exact Calls.regrown_of (l1table_any _ _ _))))
          refine wpQuiet_nil ?_
          intro w2 hw2
          obtain ⟨⟨dq, osq⟩, hw3⟩ := hw2
          have hb2 : Below _ _ w2 := hw3 ▸ below_regrown _ dq osq
          clear hw3
          have hB := hb.trans (hb2.mono hb.size)
          go_wp2
          go_ret
          exact ⟨says_no fun h => ht (h.2 k hlt).1, hB⟩
      · go_wp2
        go_ret
        exact ⟨says_yes ⟨by omega, fun j hj => hs j (by omega)⟩, hb⟩

theorem l2rowsOk_yes (v : Value) (l : List Rw) (w : World) {lo hi : Nat} (h : RowsAt lo hi w v l) (ho : rowsOk l) : Calls Tryz.prog 60 #[v] w fun e w' => e = .returned (.bool true) ∧ Below w.heap.size w w' := by
  refine (l2rowsOk_any v l w h).mono ?_
  rintro e w' ⟨⟨q, rfl, hq⟩, hb⟩
  obtain rfl := hq.2 ho
  exact ⟨rfl, hb⟩
theorem l2rowsOk_no (v : Value) (l : List Rw) (w : World) {lo hi : Nat} (h : RowsAt lo hi w v l) (ho : ¬ rowsOk l) : Calls Tryz.prog 60 #[v] w fun e w' => e = .returned (.bool false) ∧ Below w.heap.size w w' := by
  refine (l2rowsOk_any v l w h).mono ?_
  rintro e w' ⟨⟨q, rfl, hq⟩, hb⟩
  obtain rfl := says_false hq ho
  exact ⟨rfl, hb⟩

/-- The last hour of a chain of a store, by its own key. -/
theorem l1last_own (v : Value) (l : List Ch) (k : Nat) (w : World) {lo hi : Nat} (hl : ChainsAt lo hi w v l) (hs : storeOk l) (hk : k < l.length) :
    Calls Tryz.prog 59 #[.agg #[v], .agg #[.int .i64 (cAt l k).t, .int .i64 (cAt l k).r]] w fun e w' => e = .returned (.int .i64 (lastH (cAt l k).l)) ∧ Below w.heap.size w w' := by
  refine (l1last_any v l _ _ w hl hs).mono ?_
  rintro e w' ⟨x, rfl, hx, hb⟩
  rcases hx with ⟨_, h1⟩ | ⟨n, h1, h2, h3, rfl⟩
  · exact absurd ⟨rfl, rfl⟩ (h1 k hk)
  · obtain rfl := keys_one hs h1 hk h2 ⟨rfl, rfl⟩
    exact ⟨rfl, hb⟩

theorem specStoreOk_yes (v : Value) (l : List Ch) (w : World) {lo hi : Nat} (h : ChainsAt lo hi w v l) (ho : storeOk l) : Calls Tryz.prog 57 #[.agg #[v]] w fun e w' => e = .returned (.bool true) ∧ Below w.heap.size w w' := by
  refine (specStoreOk_any v l w h).mono ?_
  rintro e w' ⟨⟨q, rfl, hq⟩, hb⟩
  obtain rfl := hq.2 ho
  exact ⟨rfl, hb⟩
theorem specStoreOk_no (v : Value) (l : List Ch) (w : World) {lo hi : Nat} (h : ChainsAt lo hi w v l) (ho : ¬ storeOk l) : Calls Tryz.prog 57 #[.agg #[v]] w fun e w' => e = .returned (.bool false) ∧ Below w.heap.size w w' := by
  refine (specStoreOk_any v l w h).mono ?_
  rintro e w' ⟨⟨q, rfl, hq⟩, hb⟩
  obtain rfl := says_false hq ho
  exact ⟨rfl, hb⟩

end Go.Proofs.YtmecbppblbmchaaGreatDoor
