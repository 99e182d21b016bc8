/- Rows in order, and the value of one: keysOk, both RowsOk, both RowOf. -/
import Derived.Test.YtgnfiakbcogdlanR0
import Derived.Test.YtgnfiakbcogdlanKey0s
namespace Go.Proofs.Ytgnfiakbcogdlan
open Go.ChangeShapes Go.WideShapes Go.ChangeAt Go.RowKit Go.Sort Go.Deep Go.Joins
set_option linter.unusedVariables false
set_option maxRecDepth 100000
attribute [local go_sem ↓] Go.wp_at_zero Go.wp_at_succ

def rowOk (l : List Rw) (i : Nat) : Prop := tabB (rAt l i).t = true ∧ (0 < i → klB (rAt l (i - 1)).t (rAt l (i - 1)).r (rAt l i).t (rAt l i).r = true)
def keysUp (l : List Rw) : Prop := ∀ i, i < l.length → rowOk l i
def noZero (l : List Rw) : Prop := ∀ i, i < l.length → (rAt l i).v ≠ 0
def rowsOk' (l : List Rw) : Prop := keysUp l ∧ noZero l

set_option maxHeartbeats 1000000 in
theorem keysOk_any (v : Value) (l : List Rw) (w : World) {lo hi : Nat} (h : RowsAt lo hi w v l) :
    Calls Try.prog 59 #[v] w fun e w' => Says e (keysUp l) ∧ Below w.heap.size w w' := by
  obtain ⟨a, cap, rfl, hm, hc⟩ := h
  unfold maxLen at hm
  go_enter Try.func59, Try.ntmps59
  go_wp2
  go_loopw [7] (fun i wr => ∃ k : Nat, k ≤ l.length ∧ i = .int .i64 k ∧ Below w.heap.size w wr ∧ ∀ j, j < k → rowOk l j) (fun i _ => l.length - (intOf i).toNat)
  case atStart => exact ⟨0, Nat.zero_le _, rfl, Below.refl _ _, fun j hj => absurd hj (Nat.not_lt_zero _)⟩
  case round =>
    rename World => wo
    obtain ⟨k, hk, rfl, hb, hs⟩ := hrel
    by_cases hlt : k < l.length
    · obtain ⟨b, off, rfl, hlo, hhi, hcc⟩ := hc (by omega)
      obtain ⟨c0, c1, c2⟩ := hcc k hlt
      replace c0 := cell_stays hb c0
      replace c1 := cell_stays hb c1
      replace c2 := cell_stays hb c2
      have i0 : (0 : Int) ≤ (k : Int) := by omega
      have i1 : (k : Int) < (l.length : Int) := by omega
      clear hc
      have hA : Below wo.heap.size wo (wo.alloc (Obj.cells #[Value.int IntKind.i64 (rAt l k).t, Value.int IntKind.i64 (rAt l k).r, Value.int IntKind.i64 (rAt l k).v] 97)) := (Below.refl _ _).alloc (Nat.le_refl _) _
      have k3 := cell_regrown (w := wo.alloc (Obj.cells #[Value.int IntKind.i64 (rAt l k).t, Value.int IntKind.i64 (rAt l k).r, Value.int IntKind.i64 (rAt l k).v] 97)) (a := ⟨wo.heap.size, 0, none⟩) (v := .int .i64 (rAt l k).t) (by simp)
      have k4 := cell_regrown (w := wo.alloc (Obj.cells #[Value.int IntKind.i64 (rAt l k).t, Value.int IntKind.i64 (rAt l k).r, Value.int IntKind.i64 (rAt l k).v] 97)) (a := ⟨wo.heap.size, 1, none⟩) (v := .int .i64 (rAt l k).r) (by simp)
      by_cases ht : tabB (rAt l k).t = true
      · by_cases hkp : (0 : Int) < (k : Int)
        · have hkn : 0 < k := by omega
          obtain ⟨p0, p1, p2⟩ := hcc (k - 1) (by omega)
          have k1 := cell_regrown (cell_stays hA (cell_stays hb p0))
          have k2 := cell_regrown (cell_stays hA (cell_stays hb p1))
          by_cases hkl : klB (rAt l (k - 1)).t (rAt l (k - 1)).r (rAt l k).t (rAt l k).r = true
          · go_wp2_with fail
            refine wp_region_quiet_below (by kernel_rfl) (by kernel_rfl) ?_
            repeat (go_big_quiet_step (first | (go_at_call 85; exact Calls.regrown_of (isTable_below _ _)) | (go_at_call 86; exact Calls.regrown_of (implKeyLess_any _ _ _ _ _))))
            refine wpQuiet_nil ?_
            intro w2 hw2
            obtain ⟨⟨dq, osq⟩, hw3⟩ := hw2
            have hb2 : Below _ _ w2 := hw3 ▸ below_regrown _ dq osq
            clear hw3
            have hB := hb.trans ((hA.trans (hb2.mono hA.size)).mono hb.size)
            have hlast : rowOk l k := ⟨ht, fun _ => hkl⟩
            go_wp2
            go_roundw
            case rel => exact ⟨k + 1, by omega, by go_num, hB, upto_succ hs hlast⟩
            case measure => simp [intOf]; omega
          · have hkl' : klB (rAt l (k - 1)).t (rAt l (k - 1)).r (rAt l k).t (rAt l k).r = false := by simpa using hkl
            go_wp2_with fail
            refine wp_region_quiet_below (by kernel_rfl) (by kernel_rfl) ?_
            repeat (go_big_quiet_step (first | (go_at_call 85; exact Calls.regrown_of (isTable_below _ _)) | (go_at_call 86; exact Calls.regrown_of (implKeyLess_any _ _ _ _ _))))
            refine wpQuiet_nil ?_
            intro w2 hw2
            obtain ⟨⟨dq, osq⟩, hw3⟩ := hw2
            have hb2 : Below _ _ w2 := hw3 ▸ below_regrown _ dq osq
            clear hw3
            have hB := hb.trans ((hA.trans (hb2.mono hA.size)).mono hb.size)
            go_wp2
            go_ret
            exact ⟨says_no fun h => hkl ((h k hlt).2 hkn), hB⟩
        · have hd : decide ((0 : Int) < (k : Int)) = false := by simpa using hkp
          have hd' : decide (0 < k) = false := by simp; omega
          go_wp2_with fail
          refine wp_region_quiet_below (by kernel_rfl) (by kernel_rfl) ?_
          repeat (go_big_quiet_step (first | (go_at_call 85; exact Calls.regrown_of (isTable_below _ _))))
          refine wpQuiet_nil ?_
          intro w2 hw2
          obtain ⟨⟨dq, osq⟩, hw3⟩ := hw2
          have hb2 : Below _ _ w2 := hw3 ▸ below_regrown _ dq osq
          clear hw3
          have hB := hb.trans ((hA.trans (hb2.mono hA.size)).mono hb.size)
          have hlast : rowOk l k := ⟨ht, fun h => by omega⟩
          go_wp2
          go_roundw
          case rel => exact ⟨k + 1, by omega, by go_num, hB, upto_succ hs hlast⟩
          case measure => simp [intOf]; omega
      · have ht' : tabB (rAt l k).t = false := by simpa using ht
        go_wp2_with fail
        refine wp_region_quiet_below (by kernel_rfl) (by kernel_rfl) ?_
        repeat (go_big_quiet_step (first | (go_at_call 85; exact Calls.regrown_of (isTable_below _ _))))
        refine wpQuiet_nil ?_
        intro w2 hw2
        obtain ⟨⟨dq, osq⟩, hw3⟩ := hw2
        have hb2 : Below _ _ w2 := hw3 ▸ below_regrown _ dq osq
        clear hw3
        have hB := hb.trans ((hA.trans (hb2.mono hA.size)).mono hb.size)
        go_wp2
        go_ret
        exact ⟨says_no fun h => ht (h k hlt).1, hB⟩
    · go_wp2
      go_ret
      exact ⟨says_yes fun j hj => hs j (by omega), hb⟩

set_option maxHeartbeats 2000000 in
theorem specRowsOk_any (v : Value) (l : List Rw) (w : World) {lo hi : Nat} (h : RowsAt lo hi w v l) :
    Calls Try.prog 28 #[v] w fun e w' => Says e (rowsOk' l) ∧ Below w.heap.size w w' := by
  obtain ⟨a, cap, rfl, hm, hc⟩ := h
  unfold maxLen at hm
  go_enter Try.func28, Try.ntmps28
  go_wp2
  go_loopw [3] (fun i wr => ∃ k : Nat, k ≤ l.length ∧ i = .int .i64 k ∧ Below w.heap.size w wr ∧ ∀ j, j < k → rowOk l j ∧ (rAt l j).v ≠ 0) (fun i _ => l.length - (intOf i).toNat)
  case atStart => exact ⟨0, Nat.zero_le _, rfl, Below.refl _ _, fun j hj => absurd hj (Nat.not_lt_zero _)⟩
  case round =>
    rename World => wo
    obtain ⟨k, hk, rfl, hb, hs⟩ := hrel
    by_cases hlt : k < l.length
    · obtain ⟨b, off, rfl, hlo, hhi, hcc⟩ := hc (by omega)
      obtain ⟨c0, c1, c2⟩ := hcc k hlt
      have k3 := cell_regrown (cell_stays hb c0)
      have k4 := cell_regrown (cell_stays hb c1)
      have k5 := cell_regrown (cell_stays hb c2)
      have i0 : (0 : Int) ≤ (k : Int) := by omega
      have i1 : (k : Int) < (l.length : Int) := by omega
      clear hc c0 c1 c2
      by_cases ht : tabB (rAt l k).t = true
      · by_cases hz : (rAt l k).v = 0
        · have hz' : ((rAt l k).v == 0) = true := by simpa using hz
          clear hcc
          go_wp2_with fail
          refine wp_region_quiet_below (by kernel_rfl) (by kernel_rfl) ?_
          repeat (go_big_quiet_step (first | (go_at_call 56; exact Calls.regrown_of (l1table_any _ _ _)) | (go_at_call 57; exact Calls.regrown_of (specKeyLess_any _ _ _ _ _))))
          refine wpQuiet_nil ?_
          intro w2 hw2
          obtain ⟨⟨dq, osq⟩, hw3⟩ := hw2
          have hb2 : Below _ _ w2 := hw3 ▸ below_regrown _ dq osq
          clear hw3
          have hB := hb.trans (hb2.mono hb.size)
          go_wp2
          go_ret
          exact ⟨says_no fun h => h.2 k hlt hz, hB⟩
        · have hz' : ((rAt l k).v == 0) = false := by simpa using hz
          by_cases hkp : (0 : Int) < (k : Int)
          · have hkn : 0 < k := by omega
            obtain ⟨p0, p1, p2⟩ := hcc (k - 1) (by omega)
            have k1 := cell_regrown (cell_stays hb p0)
            have k2 := cell_regrown (cell_stays hb p1)
            clear hcc p0 p1 p2
            by_cases hkl : klB (rAt l (k - 1)).t (rAt l (k - 1)).r (rAt l k).t (rAt l k).r = true
            · have hkl0 := hkl
              go_wp2_with fail
              refine wp_region_quiet_below (by kernel_rfl) (by kernel_rfl) ?_
              repeat (go_big_quiet_step (first | (go_at_call 56; exact Calls.regrown_of (l1table_any _ _ _)) | (go_at_call 57; exact Calls.regrown_of (specKeyLess_any _ _ _ _ _))))
              refine wpQuiet_nil ?_
              intro w2 hw2
              obtain ⟨⟨dq, osq⟩, hw3⟩ := hw2
              have hb2 : Below _ _ w2 := hw3 ▸ below_regrown _ dq osq
              clear hw3
              have hB := hb.trans (hb2.mono hb.size)
              have hlast : rowOk l k ∧ (rAt l k).v ≠ 0 := ⟨⟨ht, fun _ => hkl⟩, hz⟩
              go_wp2
              go_roundw
              case rel => exact ⟨k + 1, by omega, by go_num, hB, upto_succ hs hlast⟩
              case measure => simp [intOf]; omega
            · have hkl' : klB (rAt l (k - 1)).t (rAt l (k - 1)).r (rAt l k).t (rAt l k).r = false := by simpa using hkl
              go_wp2_with fail
              refine wp_region_quiet_below (by kernel_rfl) (by kernel_rfl) ?_
              repeat (go_big_quiet_step (first | (go_at_call 56; exact Calls.regrown_of (l1table_any _ _ _)) | (go_at_call 57; exact Calls.regrown_of (specKeyLess_any _ _ _ _ _))))
              refine wpQuiet_nil ?_
              intro w2 hw2
              obtain ⟨⟨dq, osq⟩, hw3⟩ := hw2
              have hb2 : Below _ _ w2 := hw3 ▸ below_regrown _ dq osq
              clear hw3
              have hB := hb.trans (hb2.mono hb.size)
              go_wp2
              go_ret
              exact ⟨says_no fun h => hkl ((h.1 k hlt).2 hkn), hB⟩
          · have hd : decide ((0 : Int) < (k : Int)) = false := by simpa using hkp
            have hd' : decide (0 < k) = false := by simp; omega
            clear hcc
            go_wp2_with fail
            refine wp_region_quiet_below (by kernel_rfl) (by kernel_rfl) ?_
            repeat (go_big_quiet_step (first | (go_at_call 56; exact Calls.regrown_of (l1table_any _ _ _)) | (go_at_call 57; exact Calls.regrown_of (specKeyLess_any _ _ _ _ _))))
            refine wpQuiet_nil ?_
            intro w2 hw2
            obtain ⟨⟨dq, osq⟩, hw3⟩ := hw2
            have hb2 : Below _ _ w2 := hw3 ▸ below_regrown _ dq osq
            clear hw3
            have hB := hb.trans (hb2.mono hb.size)
            have hlast : rowOk l k ∧ (rAt l k).v ≠ 0 := ⟨⟨ht, fun h => by omega⟩, hz⟩
            go_wp2
            go_roundw
            case rel => exact ⟨k + 1, by omega, by go_num, hB, upto_succ hs hlast⟩
            case measure => simp [intOf]; omega
      · have ht' : tabB (rAt l k).t = false := by simpa using ht
        clear hcc
        go_wp2_with fail
        refine wp_region_quiet_below (by kernel_rfl) (by kernel_rfl) ?_
        repeat (go_big_quiet_step (first | (go_at_call 56; exact Calls.regrown_of (l1table_any _ _ _)) | (go_at_call 57; exact Calls.regrown_of (specKeyLess_any _ _ _ _ _))))
        refine wpQuiet_nil ?_
        intro w2 hw2
        obtain ⟨⟨dq, osq⟩, hw3⟩ := hw2
        have hb2 : Below _ _ w2 := hw3 ▸ below_regrown _ dq osq
        clear hw3
        have hB := hb.trans (hb2.mono hb.size)
        go_wp2
        go_ret
        exact ⟨says_no fun h => ht (h.1 k hlt).1, hB⟩
    · go_wp2
      go_ret
      exact ⟨says_yes ⟨fun j hj => (hs j (by omega)).1, fun j hj => (hs j (by omega)).2⟩, hb⟩

end Go.Proofs.Ytgnfiakbcogdlan
