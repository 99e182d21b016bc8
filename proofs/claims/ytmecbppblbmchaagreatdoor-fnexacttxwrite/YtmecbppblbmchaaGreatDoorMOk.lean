import Derived.Test.YtmecbppblbmchaaGreatDoorLastV
/- What it is to be a state of the whole; the program's MgrOk. -/
namespace Go.Proofs.YtmecbppblbmchaaGreatDoor
open Go.ChangeShapes Go.WideShapes Go.ChangeAt Go.RowKit Go.Sort
set_option linter.unusedVariables false
set_option maxRecDepth 100000
attribute [local go_sem ↓] Go.wp_at_zero Go.wp_at_succ

def rowOk (l : List Rw) (i : Nat) : Prop := tabB (rAt l i).t = true ∧ (0 < i → klB (rAt l (i - 1)).t (rAt l (i - 1)).r (rAt l i).t (rAt l i).r = true)
def rowsOk (l : List Rw) : Prop := l.length ≤ 60 ∧ ∀ i, i < l.length → rowOk l i
def txOk (m : Md) (i : Nat) : Prop := 1 ≤ (tAt m.x i).i ∧ (tAt m.x i).i < m.n ∧ (0 < i → (tAt m.x (i - 1)).i < (tAt m.x i).i) ∧ 0 ≤ (tAt m.x i).s ∧ (tAt m.x i).s ≤ m.c ∧ rowsOk (tAt m.x i).w
def txsOk (m : Md) : Prop := m.x.length ≤ 8 ∧ ∀ i, i < m.x.length → txOk m i
def lateOk (m : Md) : Prop := ∀ i, i < m.s.length → lastH (cAt m.s i).l ≤ m.c
def mgrOk (m : Md) : Prop := storeOk m.s ∧ hourB m.c = true ∧ 1 ≤ m.n ∧ m.n ≤ 1000000 ∧ m.h.length ≤ 3000 ∧ lateOk m ∧ txsOk m

theorem isHour_below (t : Int) (w : World) : Calls Tryz.prog 106 #[.int .i64 t] w fun e w' => e = .returned (.bool (hourB t)) ∧ Below w.heap.size w w' := by
  refine (isHour_any t w).mono ?_
  rintro e w' ⟨rfl, rfl⟩
  exact ⟨rfl, Below.refl _ _⟩

def keysUp (l : List Rw) : Prop := ∀ i, i < l.length → rowOk l i
set_option maxHeartbeats 1000000 in
theorem keysOk_any (v : Value) (l : List Rw) (w : World) {lo hi : Nat} (h : RowsAt lo hi w v l) :
    Calls Tryz.prog 150 #[v] w fun e w' => Says e (keysUp l) ∧ Below w.heap.size w w' := by
  obtain ⟨a, cap, rfl, hm, hc⟩ := h
  unfold maxLen at hm
  go_enter Tryz.func150, Tryz.ntmps150
  go_wp2
  go_loopw [7] (fun i wr => ∃ k : Nat, k ≤ l.length ∧ i = .int .i64 k ∧ Below w.heap.size w wr ∧ ∀ j, j < k → rowOk l j) (fun i _ => l.length - (intOf i).toNat)
  case atStart => exact ⟨0, Nat.zero_le _, rfl, Below.refl _ _, fun j hj => absurd hj (Nat.not_lt_zero _)⟩
  case round =>
    rename World => wo
    obtain ⟨k, hk, rfl, hb, hs⟩ := hrel
    by_cases hlt : k < l.length
    · obtain ⟨b, off, rfl, hlo, hhi, hcc⟩ := hc (by omega)
      obtain ⟨c0, c1, c2⟩ := hcc k hlt
      replace c0 := cell_stays hb c0
      replace c1 := cell_stays hb c1
      replace c2 := cell_stays hb c2
      have i0 : (0 : Int) ≤ (k : Int) := by omega
      have i1 : (k : Int) < (l.length : Int) := by omega
      clear hc
      have hA : Below wo.heap.size wo (wo.alloc (Obj.cells #[Value.int IntKind.i64 (rAt l k).t, Value.int IntKind.i64 (rAt l k).r, Value.int IntKind.i64 (rAt l k).v] 111)) := (Below.refl _ _).alloc (Nat.le_refl _) _
      have k3 := cell_regrown (w := wo.alloc (Obj.cells #[Value.int IntKind.i64 (rAt l k).t, Value.int IntKind.i64 (rAt l k).r, Value.int IntKind.i64 (rAt l k).v] 111)) (a := ⟨wo.heap.size, 0, none⟩) (v := .int .i64 (rAt l k).t) (by simp)
      have k4 := cell_regrown (w := wo.alloc (Obj.cells #[Value.int IntKind.i64 (rAt l k).t, Value.int IntKind.i64 (rAt l k).r, Value.int IntKind.i64 (rAt l k).v] 111)) (a := ⟨wo.heap.size, 1, none⟩) (v := .int .i64 (rAt l k).r) (by simp)
      by_cases ht : tabB (rAt l k).t = true
      · by_cases hkp : (0 : Int) < (k : Int)
        · have hkn : 0 < k := by omega
          obtain ⟨p0, p1, p2⟩ := hcc (k - 1) (by omega)
          have k1 := cell_regrown (cell_stays hA (cell_stays hb p0))
          have k2 := cell_regrown (cell_stays hA (cell_stays hb p1))
          by_cases hkl : klB (rAt l (k - 1)).t (rAt l (k - 1)).r (rAt l k).t (rAt l k).r = true
          · go_wp2_with fail
            refine wp_region_quiet_below (by kernel_rfl) (by kernel_rfl) ?_
            repeat (go_big_quiet_step (first | (go_at_call 118; exact Calls.regrown_of (isTable_below _ _)) | (go_at_call 138; exact Calls.regrown_of (implKeyLess_any _ _ _ _ _))))
            refine wpQuiet_nil ?_
            intro w2 hw2
            obtain ⟨⟨dq, osq⟩, hw3⟩ := hw2
            have hb2 : Below _ _ w2 := hw3 ▸ below_regrown _ dq osq
            clear hw3
            have hB := hb.trans ((hA.trans (hb2.mono hA.size)).mono hb.size)
            have hlast : rowOk l k := ⟨ht, fun _ => hkl⟩
            go_wp2
            go_roundw
            case rel => exact ⟨k + 1, by omega, by go_num, hB, upto_succ hs hlast⟩
            case measure => simp [intOf]; omega
          · have hkl' : klB (rAt l (k - 1)).t (rAt l (k - 1)).r (rAt l k).t (rAt l k).r = false := by simpa using hkl
            go_wp2_with fail
            refine wp_region_quiet_below (by kernel_rfl) (by kernel_rfl) ?_
            repeat (go_big_quiet_step (first | (go_at_call 118; exact Calls.regrown_of (isTable_below _ _)) | (go_at_call 138; exact Calls.regrown_of (implKeyLess_any _ _ _ _ _))))
            refine wpQuiet_nil ?_
            intro w2 hw2
            obtain ⟨⟨dq, osq⟩, hw3⟩ := hw2
            have hb2 : Below _ _ w2 := hw3 ▸ below_regrown _ dq osq
            clear hw3
            have hB := hb.trans ((hA.trans (hb2.mono hA.size)).mono hb.size)
            go_wp2
            go_ret
            exact ⟨says_no fun h => hkl ((h k hlt).2 hkn), hB⟩
        · have hd : decide ((0 : Int) < (k : Int)) = false := by simpa using hkp
          have hd' : decide (0 < k) = false := by simp; omega
          go_wp2_with fail
          refine wp_region_quiet_below (by kernel_rfl) (by kernel_rfl) ?_
          repeat (go_big_quiet_step (first | (go_at_call 118; exact Calls.regrown_of (isTable_below _ _))))
          refine wpQuiet_nil ?_
          intro w2 hw2
          obtain ⟨⟨dq, osq⟩, hw3⟩ := hw2
          have hb2 : Below _ _ w2 := hw3 ▸ below_regrown _ dq osq
          clear hw3
          have hB := hb.trans ((hA.trans (hb2.mono hA.size)).mono hb.size)
          have hlast : rowOk l k := ⟨ht, fun h => by omega⟩
          go_wp2
          go_roundw
          case rel => exact ⟨k + 1, by omega, by go_num, hB, upto_succ hs hlast⟩
          case measure => simp [intOf]; omega
      · have ht' : tabB (rAt l k).t = false := by simpa using ht
        go_wp2_with fail
        refine wp_region_quiet_below (by kernel_rfl) (by kernel_rfl) ?_
        repeat (go_big_quiet_step (first | (go_at_call 118; exact Calls.regrown_of (isTable_below _ _))))
        refine wpQuiet_nil ?_
        intro w2 hw2
        obtain ⟨⟨dq, osq⟩, hw3⟩ := hw2
        have hb2 : Below _ _ w2 := hw3 ▸ below_regrown _ dq osq
        clear hw3
        have hB := hb.trans ((hA.trans (hb2.mono hA.size)).mono hb.size)
        go_wp2
        go_ret
        exact ⟨says_no fun h => ht (h k hlt).1, hB⟩
    · go_wp2
      go_ret
      exact ⟨says_yes fun j hj => hs j (by omega), hb⟩

theorem writesOk_any (v : Value) (l : List Rw) (w : World) {lo hi : Nat} (h : RowsAt lo hi w v l) :
    Calls Tryz.prog 139 #[v] w fun e w' => Says e (rowsOk l) ∧ Below w.heap.size w w' := by
  obtain ⟨a, cap, hv⟩ : ∃ a cap, v = .slice a l.length cap := by obtain ⟨a, cap, h1, _⟩ := h; exact ⟨a, cap, h1⟩
  subst hv
  have hm : l.length ≤ 9223372036854775807 := by obtain ⟨_, _, _, hm, _⟩ := h; unfold maxLen at hm; exact hm
  by_cases h2 : l.length ≤ 60
  · have h2i : (l.length : Int) ≤ 60 := by omega
    go_enter Tryz.func139, Tryz.ntmps139
    go_wp2_with fail
    refine (keysOk_any _ l _ h).mono ?_
    rintro e w1 ⟨⟨q, rfl, hq⟩, hb⟩
    by_cases hk : keysUp l
    · obtain rfl : q = true := hq.2 hk
      clear hq
      go_wp2
      go_ret
      exact ⟨says_yes ⟨h2, hk⟩, hb⟩
    · obtain rfl : q = false := says_false hq hk
      clear hq
      go_wp2
      go_ret
      exact ⟨says_no fun hh => hk hh.2, hb⟩
  · have h2i : decide ((l.length : Int) ≤ 60) = false := by simp; omega
    have h2n : decide (l.length ≤ 60) = false := by simp; omega
    go_enter Tryz.func139, Tryz.ntmps139
    go_wp2
    go_ret
    exact ⟨says_no fun hh => h2 hh.1, Below.refl _ _⟩

/-- The newest hour of the first k chains. -/
def nh (l : List Ch) : Nat → Int
  | 0 => 0
  | k + 1 => if nh l k < lastH (cAt l k).l then lastH (cAt l k).l else nh l k

theorem nh_le (l : List Ch) (c : Int) (hc : 0 ≤ c) : ∀ k, nh l k ≤ c ↔ ∀ i, i < k → lastH (cAt l i).l ≤ c
  | 0 => by simp [nh, hc]
  | k + 1 => by
    have ih := nh_le l c hc k
    simp only [nh]
    constructor
    · intro h i hi
      by_cases e : i = k
      · subst e
        split at h <;> omega
      · refine ih.1 ?_ i (by omega)
        split at h <;> omega
    · intro h
      have h1 := ih.2 fun i hi => h i (by omega)
      have h2 := h k (by omega)
      split <;> omega

set_option maxHeartbeats 1000000 in
theorem newestHour_any (v : Value) (l : List Ch) (w : World) {lo hi : Nat} (h : ChainsAt lo hi w v l) (ho : storeOk l) :
    Calls Tryz.prog 107 #[.agg #[v]] w fun e w' => e = .returned (.int .i64 (nh l l.length)) ∧ Below w.heap.size w w' := by
  obtain ⟨a, cap, rfl, hm, hc⟩ := h
  unfold maxLen at hm
  have hn2 := ho.1
  have hbx : Below w.heap.size w (w.alloc (Obj.cells #[Value.slice a l.length cap] 32)) := (Below.refl _ _).alloc (Nat.le_refl _) _
  go_enter Tryz.func107, Tryz.ntmps107
  go_wp2
  go_loopw [3, 9] (fun x i wr => ∃ k : Nat, k ≤ l.length ∧ i = .int .i64 k ∧ x = .int .i64 (nh l k) ∧ Below w.heap.size w wr) (fun _ i _ => l.length - (intOf i).toNat)
  case atStart => exact ⟨0, Nat.zero_le _, rfl, rfl, hbx⟩
  case round =>
    rename World => wo
    obtain ⟨k, hk, rfl, rfl, hb⟩ := hrel
    by_cases hlt : k < l.length
    · obtain ⟨b, off, rfl, hlo, hhi, hcc⟩ := hc (by omega)
      obtain ⟨c0, c1, ca, cb, c2, c3⟩ := hcc k hlt
      replace c0 := cell_stays hb c0
      replace c1 := cell_stays hb c1
      replace c2 := cell_stays hb c2
      replace c3 := c3.stays hb
      have hv := (ho.2 k hlt).2.2
      have i0 : (0 : Int) ≤ (k : Int) := by omega
      have i1 : (k : Int) < (l.length : Int) := by omega
      clear hc hcc
      have hA : Below wo.heap.size wo (wo.alloc (Obj.cells #[Value.int IntKind.i64 (cAt l k).t, Value.int IntKind.i64 (cAt l k).r, Value.slice ca (cAt l k).l.length cb] 94)) := (Below.refl _ _).alloc (Nat.le_refl _) _
      have hfd := field_at (lastH (cAt l k).l) (vAt (cAt l k).l ((cAt l k).l.length - 1)).2
      go_wp2_with (go_at_call 119; refine (verAt_last _ (cAt l k).l _ (c3.stays hA) hv).mono ?_; rintro e w1 ⟨rfl, hb1⟩)
      have hB := hb.trans ((hA.trans (hb1.mono hA.size)).mono hb.size)
      go_roundw
      case rel => exact ⟨k + 1, by omega, by go_num, by first | rfl | (simp only [nh]; congr 1; split <;> omega) | (simp only [nh]; congr 1; omega), hB⟩
      case measure => simp [intOf]; omega
    · have e : k = l.length := by omega
      subst e
      go_wp2
      go_ret
      exact ⟨rfl, hb⟩

end Go.Proofs.YtmecbppblbmchaaGreatDoor
