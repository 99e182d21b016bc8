import Derived.Test.YtmecbppblbmchaaGreatDoorCopy0
import Derived.Deep.QuietTactic
import Derived.BigQuiet
import Derived.Lib.QuietBelow
import Derived.Test.YtmecbppblbmchaaGreatDoorKey0s
/- What it is to be a store: the small tests, versOk, and both StoreOk functions. -/
namespace Go.Proofs.YtmecbppblbmchaaGreatDoor
open Go.ChangeShapes Go.WideShapes Go.ChangeAt Go.RowKit Go.Sort
set_option linter.unusedVariables false
set_option maxRecDepth 100000
attribute [local go_sem ↓] Go.wp_at_zero Go.wp_at_succ

def hourB (t : Int) : Bool := decide (0 ≤ t ∧ t ≤ 1000000)

theorem hourB_iff (t : Int) : hourB t = true ↔ 0 ≤ t ∧ t ≤ 1000000 := by simp [hourB]


theorem isHour_any (t : Int) (w : World) :
    Calls Tryz.prog 106 #[.int .i64 t] w fun e w' => e = .returned (.bool (hourB t)) ∧ w' = w := by
  by_cases h1 : 0 ≤ t
  · by_cases h2 : t ≤ 1000000
    · go_enter Tryz.func106, Tryz.ntmps106
      go_wp2
      go_ret
      exact ⟨by simp [hourB, h1, h2], rfl⟩
    · go_enter Tryz.func106, Tryz.ntmps106
      go_wp2
      go_ret
      exact ⟨by simp [hourB, h1, h2], rfl⟩
  · go_enter Tryz.func106, Tryz.ntmps106
    go_wp2
    go_ret
    exact ⟨by simp [hourB]; omega, rfl⟩

theorem l1hour_any (t : Int) (w : World) :
    Calls Tryz.prog 58 #[.int .i64 t] w fun e w' => e = .returned (.bool (hourB t)) ∧ w' = w := by
  by_cases h1 : 0 ≤ t
  · by_cases h2 : t ≤ 1000000
    · go_enter Tryz.func58, Tryz.ntmps58
      go_wp2
      go_ret
      exact ⟨by simp [hourB, h1, h2], rfl⟩
    · go_enter Tryz.func58, Tryz.ntmps58
      go_wp2
      go_ret
      exact ⟨by simp [hourB, h1, h2], rfl⟩
  · go_enter Tryz.func58, Tryz.ntmps58
    go_wp2
    go_ret
    exact ⟨by simp [hourB]; omega, rfl⟩




/-- One version behind the others: an hour from 1 to MaxClock, later than the last one. -/
def verOk (l : List Vr) (k : Nat) : Prop := 1 ≤ (vAt l k).1 ∧ (vAt l k).1 ≤ 1000000 ∧ (0 < k → (vAt l (k - 1)).1 < (vAt l k).1)
def versOk (l : List Vr) : Prop := 1 ≤ l.length ∧ l.length ≤ 200 ∧ ∀ k, k < l.length → verOk l k
def chainOk (l : List Ch) (i : Nat) : Prop := tabB (cAt l i).t = true ∧ (0 < i → klB (cAt l (i - 1)).t (cAt l (i - 1)).r (cAt l i).t (cAt l i).r = true) ∧ versOk (cAt l i).l
def storeOk (l : List Ch) : Prop := l.length ≤ 200 ∧ ∀ i, i < l.length → chainOk l i



theorem versOk_any (v : Value) (l : List Vr) (w : World) {lo hi : Nat} (h : VersAt lo hi w v l) :
    Calls Tryz.prog 137 #[v] w fun e w' => Says e (versOk l) ∧ w' = w := by
  obtain ⟨a, cap, rfl, hm, hc⟩ := h
  unfold maxLen at hm
  by_cases h0 : l.length = 0
  · have e0 : ((l.length : Int) == 0) = true := by simp [h0]
    clear hc
    go_enter Tryz.func137, Tryz.ntmps137
    go_wp2
    go_ret
    exact ⟨says_no fun h => by have := h.1; omega, rfl⟩
  · have e0 : ((l.length : Int) == 0) = false := by rw [beq_eq_false_iff_ne]; omega
    by_cases h2 : 200 < l.length
    · clear hc
      go_enter Tryz.func137, Tryz.ntmps137
      go_wp2
      go_ret
      exact ⟨says_no fun h => by have := h.2.1; omega, rfl⟩
    · obtain ⟨b, off, rfl, _, _, hcc⟩ := hc (by omega)
      clear hc
      go_enter Tryz.func137, Tryz.ntmps137
      go_wp2
      go_loop [3, 15] (fun x i => ∃ k : Nat, k ≤ l.length ∧ i = .int .i64 k ∧ (x = .int .i64 (if k = 0 then 0 else (vAt l (k - 1)).1)) ∧ ∀ j, j < k → verOk l j) (fun _ i => l.length - (intOf i).toNat)
      case atStart => exact ⟨0, Nat.zero_le _, rfl, rfl, fun j hj => absurd hj (Nat.not_lt_zero _)⟩
      case round =>
        obtain ⟨k, hk, rfl, rfl, hs⟩ := hrel
        generalize hx : (if k = 0 then (0 : Int) else (vAt l (k - 1)).1) = x
        have HX : Hid ((if k = 0 then (0 : Int) else (vAt l (k - 1)).1) = x) := hx
        clear hx
        by_cases hlt : k < l.length
        · have c0 := (hcc k hlt).1
          by_cases h3 : (vAt l k).1 ≤ x
          · go_wp2
            go_ret
            refine ⟨says_no fun h => ?_, rfl⟩
            have h4 := h.2.2 k hlt
            have h5 := HX.out
            have h6 := h4.1
            by_cases hz : k = 0
            · rw [if_pos hz] at h5; omega
            · rw [if_neg hz] at h5; have := h4.2.2 (by omega); omega
          · by_cases h4 : hourB (vAt l k).1 = true
            · go_wp2_with (go_at_call 106; refine (isHour_any _ _).mono ?_; rintro e w1 ⟨rfl, rfl⟩)
              go_round
              case rel =>
                refine ⟨k + 1, by omega, by go_num, by simp, fun j hj => ?_⟩
                by_cases e : j = k
                · subst e
                  have h5 := HX.out
                  have h6 := (hourB_iff _).1 h4
                  by_cases hz : j = 0
                  · rw [if_pos hz] at h5; exact ⟨by omega, h6.2, fun h => by omega⟩
                  · rw [if_neg hz] at h5
                    have h7 := (hs (j - 1) (by omega)).1
                    exact ⟨by omega, h6.2, fun _ => by omega⟩
                · exact hs j (by omega)
              case measure => simp [intOf]; omega
            · have h4' : hourB (vAt l k).1 = false := by simpa using h4
              go_wp2_with (go_at_call 106; refine (isHour_any _ _).mono ?_; rintro e w1 ⟨rfl, rfl⟩)
              go_ret
              refine ⟨says_no fun h => h4 ?_, rfl⟩
              have := h.2.2 k hlt
              exact (hourB_iff _).2 ⟨by have := this.1; omega, this.2.1⟩
        · go_wp2
          go_ret
          exact ⟨says_yes ⟨by omega, by omega, fun j hj => hs j (by omega)⟩, rfl⟩

theorem implStoreOk_any (v : Value) (l : List Ch) (w : World) {lo hi : Nat} (h : ChainsAt lo hi w v l) :
    Calls Tryz.prog 105 #[.agg #[v]] w fun e w' => Says e (storeOk l) ∧ Below w.heap.size w w' := by
  obtain ⟨a, cap, rfl, hm, hc⟩ := h
  unfold maxLen at hm
  have hbx : Below w.heap.size w (w.alloc (Obj.cells #[Value.slice a l.length cap] 32)) := (Below.refl _ _).alloc (Nat.le_refl _) _
  by_cases h2 : 200 < l.length
  · clear hc
    go_enter Tryz.func105, Tryz.ntmps105
    go_wp2
    go_ret
    exact ⟨says_no fun h => by have := h.1; omega, hbx⟩
  · go_enter Tryz.func105, Tryz.ntmps105
    go_wp2
    go_loopw [12] (fun i wr => ∃ k : Nat, k ≤ l.length ∧ i = .int .i64 k ∧ Below w.heap.size w wr ∧ wr.cell? ⟨w.heap.size, 0, none⟩ = some (.slice a l.length cap) ∧ ∀ j, j < k → chainOk l j) (fun i _ => l.length - (intOf i).toNat)
    case atStart => exact ⟨0, Nat.zero_le _, rfl, hbx, by simp, fun j hj => absurd hj (Nat.not_lt_zero _)⟩
    case round =>
      obtain ⟨k, hk, rfl, hb, hp, hs⟩ := hrel
      by_cases hlt : k < l.length
      · obtain ⟨b, off, rfl, hlo, hhi, hcc⟩ := hc (by omega)
        obtain ⟨c0, c1, ca, cb, c2, c3⟩ := hcc k hlt
        replace c0 := cell_stays hb c0
        replace c1 := cell_stays hb c1
        replace c2 := cell_stays hb c2
        have i0 : (0 : Int) ≤ (k : Int) := by omega
        have i1 : (k : Int) < (l.length : Int) := by omega
        clear hc
        by_cases ht : tabB (cAt l k).t = true
        · by_cases hv : versOk (cAt l k).l
          · by_cases hkp : (0 : Int) < (k : Int)
            · have hkn : 0 < k := by omega
              obtain ⟨p0, p1, pa, pb, p2, p3⟩ := hcc (k - 1) (by omega)
              replace p0 := cell_stays hb p0
              replace p1 := cell_stays hb p1
              by_cases hkl : klB (cAt l (k - 1)).t (cAt l (k - 1)).r (cAt l k).t (cAt l k).r = true
              · go_wp2_with (first | (go_at_call 118; refine (isTable_any _ _).mono ?_; rintro e w1 ⟨rfl, rfl⟩) | (go_at_call 137; refine (versOk_any _ _ _ (c3.stays (hb.alloc hb.size _))).mono ?_; rintro e w1 ⟨⟨q, rfl, hq⟩, rfl⟩; obtain rfl := hq.2 hv; clear hq))
                have hA : Below wr.heap.size wr (wr.alloc (Obj.cells #[Value.int IntKind.i64 (cAt l k).t, Value.int IntKind.i64 (cAt l k).r, Value.slice ca (cAt l k).l.length cb] 94)) := (Below.refl _ _).alloc (Nat.le_refl _) _
                have k0 := cell_regrown (cell_stays hA hp)
                have k1 := cell_regrown (cell_stays hA p0)
                have k2 := cell_regrown (cell_stays hA p1)
                have k3 := cell_regrown (w := wr.alloc (Obj.cells #[Value.int IntKind.i64 (cAt l k).t, Value.int IntKind.i64 (cAt l k).r, Value.slice ca (cAt l k).l.length cb] 94)) (a := ⟨wr.heap.size, 0, none⟩) (v := .int .i64 (cAt l k).t) (by simp)
                have k4 := cell_regrown (w := wr.alloc (Obj.cells #[Value.int IntKind.i64 (cAt l k).t, Value.int IntKind.i64 (cAt l k).r, Value.slice ca (cAt l k).l.length cb] 94)) (a := ⟨wr.heap.size, 1, none⟩) (v := .int .i64 (cAt l k).r) (by simp)
                refine wp_region_quiet_below (by kernel_rfl) (by kernel_rfl) ?_
                repeat (go_big_quiet_step ((go_at_call 138; exact Calls.regrown_of (implKeyLess_any _ _ _ _ _))))
                refine wpQuiet_nil ?_
                intro w2 hw2
                obtain ⟨⟨dq, osq⟩, hw3⟩ := hw2
                have hb2 : Below _ _ w2 := hw3 ▸ below_regrown _ dq osq
                clear hw3
                have hlast : chainOk l k := ⟨ht, fun _ => hkl, hv⟩
                go_wp2
                go_roundw
                case rel => exact ⟨k + 1, by omega, by go_num, hb.trans ((hA.trans (hb2.mono hA.size)).mono hb.size), cell_stays hb2 (cell_stays hA hp), upto_succ hs hlast⟩
                case measure => simp [intOf]; omega
              · have hkl' : klB (cAt l (k - 1)).t (cAt l (k - 1)).r (cAt l k).t (cAt l k).r = false := by simpa using hkl
                go_wp2_with (first | (go_at_call 118; refine (isTable_any _ _).mono ?_; rintro e w1 ⟨rfl, rfl⟩) | (go_at_call 137; refine (versOk_any _ _ _ (c3.stays (hb.alloc hb.size _))).mono ?_; rintro e w1 ⟨⟨q, rfl, hq⟩, rfl⟩; obtain rfl := hq.2 hv; clear hq))
                have hA : Below wr.heap.size wr (wr.alloc (Obj.cells #[Value.int IntKind.i64 (cAt l k).t, Value.int IntKind.i64 (cAt l k).r, Value.slice ca (cAt l k).l.length cb] 94)) := (Below.refl _ _).alloc (Nat.le_refl _) _
                have k0 := cell_regrown (cell_stays hA hp)
                have k1 := cell_regrown (cell_stays hA p0)
                have k2 := cell_regrown (cell_stays hA p1)
                have k3 := cell_regrown (w := wr.alloc (Obj.cells #[Value.int IntKind.i64 (cAt l k).t, Value.int IntKind.i64 (cAt l k).r, Value.slice ca (cAt l k).l.length cb] 94)) (a := ⟨wr.heap.size, 0, none⟩) (v := .int .i64 (cAt l k).t) (by simp)
                have k4 := cell_regrown (w := wr.alloc (Obj.cells #[Value.int IntKind.i64 (cAt l k).t, Value.int IntKind.i64 (cAt l k).r, Value.slice ca (cAt l k).l.length cb] 94)) (a := ⟨wr.heap.size, 1, none⟩) (v := .int .i64 (cAt l k).r) (by simp)
                refine wp_region_quiet_below (by kernel_rfl) (by kernel_rfl) ?_
                repeat (go_big_quiet_step ((go_at_call 138; exact Calls.regrown_of (implKeyLess_any _ _ _ _ _))))
                refine wpQuiet_nil ?_
                intro w2 hw2
                obtain ⟨⟨dq, osq⟩, hw3⟩ := hw2
                have hb2 : Below _ _ w2 := hw3 ▸ below_regrown _ dq osq
                clear hw3
                go_wp2
                go_ret
                exact ⟨says_no fun h => hkl ((h.2 k hlt).2.1 hkn), hb.trans ((hA.trans (hb2.mono hA.size)).mono hb.size)⟩
            · have hd : decide ((0 : Int) < (k : Int)) = false := by simpa using hkp
              have hd' : decide (0 < k) = false := by simp; omega
              go_wp2_with (first | (go_at_call 118; refine (isTable_any _ _).mono ?_; rintro e w1 ⟨rfl, rfl⟩) | (go_at_call 137; refine (versOk_any _ _ _ (c3.stays (hb.alloc hb.size _))).mono ?_; rintro e w1 ⟨⟨q, rfl, hq⟩, rfl⟩; obtain rfl := hq.2 hv; clear hq))
              have hA : Below wr.heap.size wr (wr.alloc (Obj.cells #[Value.int IntKind.i64 (cAt l k).t, Value.int IntKind.i64 (cAt l k).r, Value.slice ca (cAt l k).l.length cb] 94)) := (Below.refl _ _).alloc (Nat.le_refl _) _
              refine wp_region_quiet_below (by kernel_rfl) (by kernel_rfl) ?_
              repeat (go_big_quiet_step (fail))
              refine wpQuiet_nil ?_
              intro w2 hw2
              obtain ⟨⟨dq, osq⟩, hw3⟩ := hw2
              have hb2 : Below _ _ w2 := hw3 ▸ below_regrown _ dq osq
              clear hw3
              have hlast : chainOk l k := ⟨ht, fun h => by omega, hv⟩
              go_wp2
              go_roundw
              case rel => exact ⟨k + 1, by omega, by go_num, hb.trans ((hA.trans (hb2.mono hA.size)).mono hb.size), cell_stays hb2 (cell_stays hA hp), upto_succ hs hlast⟩
              case measure => simp [intOf]; omega
          · go_wp2_with (first | (go_at_call 118; refine (isTable_any _ _).mono ?_; rintro e w1 ⟨rfl, rfl⟩) | (go_at_call 137; refine (versOk_any _ _ _ (c3.stays (hb.alloc hb.size _))).mono ?_; rintro e w1 ⟨⟨q, rfl, hq⟩, rfl⟩; obtain rfl := says_false hq hv; clear hq))
            go_ret
            exact ⟨says_no fun h => hv (h.2 k hlt).2.2, hb.alloc hb.size _⟩
        · have ht' : tabB (cAt l k).t = false := by simpa using ht
          go_wp2_with (first | (go_at_call 118; refine (isTable_any _ _).mono ?_; rintro e w1 ⟨rfl, rfl⟩))
          go_ret
          exact ⟨says_no fun h => ht (h.2 k hlt).1, hb.alloc hb.size _⟩
      · go_wp2
        go_ret
        exact ⟨says_yes ⟨by omega, fun j hj => hs j (by omega)⟩, hb⟩

end Go.Proofs.YtmecbppblbmchaaGreatDoor
