/- spec.RowsOk, spec.RowOf, over the rows of stores. -/
import Derived.Test.YtifdfelpbonckaaShelf
import Derived.Test.YtifdfelpbonckaaLDrawAt
import Derived.Test.YtifdfelpbonckaaState2
import Derived.Test.YtifdfelpbonckaaSpecOk
namespace Go.Proofs.Ytifdfelpbonckaa
open Go.ChangeShapes Go.WideShapes Go.ChangeAt Go.RowKit Go.Sort Go.Deep
set_option linter.unusedVariables false
set_option maxRecDepth 100000
attribute [local go_sem ↓] Go.wp_at_zero Go.wp_at_succ

def rowOk (l : List Rw) (i : Nat) : Prop := tabB (rAt l i).t = true ∧ (0 < i → klB (rAt l (i - 1)).t (rAt l (i - 1)).r (rAt l i).t (rAt l i).r = true)

def keysUp (l : List Rw) : Prop := ∀ i, i < l.length → rowOk l i

def noZero (l : List Rw) : Prop := ∀ i, i < l.length → (rAt l i).v ≠ 0

def rowsOk' (l : List Rw) : Prop := keysUp l ∧ noZero l

set_option maxHeartbeats 2000000 in
theorem specRowsOk_any (v : Value) (l : List Rw) (w : World) {lo hi : Nat} (h : RowsAt lo hi w v l) :
    Calls Try.prog 23 #[v] w fun e w' => Says e (rowsOk' l) ∧ Below w.heap.size w w' := by
  obtain ⟨a, cap, rfl, hm, hc⟩ := h
  unfold maxLen at hm
  go_enter Try.func23, Try.ntmps23
  go_wp2
  go_loopw [3] (fun i wr => ∃ k : Nat, k ≤ l.length ∧ i = .int .i64 k ∧ Below w.heap.size w wr ∧ ∀ j, j < k → rowOk l j ∧ (rAt l j).v ≠ 0) (fun i _ => l.length - (intOf i).toNat)
  case atStart => exact ⟨0, Nat.zero_le _, rfl, Below.refl _ _, fun j hj => absurd hj (Nat.not_lt_zero _)⟩
  case round =>
    rename World => wo
    obtain ⟨k, hk, rfl, hb, hs⟩ := hrel
    by_cases hlt : k < l.length
    · obtain ⟨b, off, rfl, hlo, hhi, hcc⟩ := hc (by omega)
      obtain ⟨c0, c1, c2⟩ := hcc k hlt
      have k3 := cell_regrown (cell_stays hb c0)
      have k4 := cell_regrown (cell_stays hb c1)
      have k5 := cell_regrown (cell_stays hb c2)
      have i0 : (0 : Int) ≤ (k : Int) := by omega
      have i1 : (k : Int) < (l.length : Int) := by omega
      clear hc c0 c1 c2
      by_cases ht : tabB (rAt l k).t = true
      · by_cases hz : (rAt l k).v = 0
        · have hz' : ((rAt l k).v == 0) = true := by simpa using hz
          clear hcc
          go_wp2_with fail
          refine wp_region_quiet_below (by kernel_rfl) (by kernel_rfl) ?_
          repeat (go_big_quiet_step (first | (go_at_call 39; exact Calls.regrown_of (l1table_any _ _ _)) | (go_at_call 50; exact Calls.regrown_of (specKeyLess_any _ _ _ _ _))))
          refine wpQuiet_nil ?_
          intro w2 hw2
          obtain ⟨⟨dq, osq⟩, hw3⟩ := hw2
          have hb2 : Below _ _ w2 := hw3 ▸ below_regrown _ dq osq
          clear hw3
          have hB := hb.trans (hb2.mono hb.size)
          go_wp2
          go_ret
          exact ⟨says_no fun h => h.2 k hlt hz, hB⟩
        · have hz' : ((rAt l k).v == 0) = false := by simpa using hz
          by_cases hkp : (0 : Int) < (k : Int)
          · have hkn : 0 < k := by omega
            obtain ⟨p0, p1, p2⟩ := hcc (k - 1) (by omega)
            have k1 := cell_regrown (cell_stays hb p0)
            have k2 := cell_regrown (cell_stays hb p1)
            clear hcc p0 p1 p2
            by_cases hkl : klB (rAt l (k - 1)).t (rAt l (k - 1)).r (rAt l k).t (rAt l k).r = true
            · have hkl0 := hkl
              go_wp2_with fail
              refine wp_region_quiet_below (by kernel_rfl) (by kernel_rfl) ?_
              repeat (go_big_quiet_step (first | (go_at_call 39; exact Calls.regrown_of (l1table_any _ _ _)) | (go_at_call 50; exact Calls.regrown_of (specKeyLess_any _ _ _ _ _))))
              refine wpQuiet_nil ?_
              intro w2 hw2
              obtain ⟨⟨dq, osq⟩, hw3⟩ := hw2
              have hb2 : Below _ _ w2 := hw3 ▸ below_regrown _ dq osq
              clear hw3
              have hB := hb.trans (hb2.mono hb.size)
              have hlast : rowOk l k ∧ (rAt l k).v ≠ 0 := ⟨⟨ht, fun _ => hkl⟩, hz⟩
              go_wp2
              go_roundw
              case rel => exact ⟨k + 1, by omega, by go_num, hB, upto_succ hs hlast⟩
              case measure => simp [intOf]; omega
            · have hkl' : klB (rAt l (k - 1)).t (rAt l (k - 1)).r (rAt l k).t (rAt l k).r = false := by simpa using hkl
              go_wp2_with fail
              refine wp_region_quiet_below (by kernel_rfl) (by kernel_rfl) ?_
              repeat (go_big_quiet_step (first | (go_at_call 39; exact Calls.regrown_of (l1table_any _ _ _)) | (go_at_call 50; exact Calls.regrown_of (specKeyLess_any _ _ _ _ _))))
              refine wpQuiet_nil ?_
              intro w2 hw2
              obtain ⟨⟨dq, osq⟩, hw3⟩ := hw2
              have hb2 : Below _ _ w2 := hw3 ▸ below_regrown _ dq osq
              clear hw3
              have hB := hb.trans (hb2.mono hb.size)
              go_wp2
              go_ret
              exact ⟨says_no fun h => hkl ((h.1 k hlt).2 hkn), hB⟩
          · have hd : decide ((0 : Int) < (k : Int)) = false := by simpa using hkp
            have hd' : decide (0 < k) = false := by simp; omega
            clear hcc
            go_wp2_with fail
            refine wp_region_quiet_below (by kernel_rfl) (by kernel_rfl) ?_
            repeat (go_big_quiet_step (first | (go_at_call 39; exact Calls.regrown_of (l1table_any _ _ _)) | (go_at_call 50; exact Calls.regrown_of (specKeyLess_any _ _ _ _ _))))
            refine wpQuiet_nil ?_
            intro w2 hw2
            obtain ⟨⟨dq, osq⟩, hw3⟩ := hw2
            have hb2 : Below _ _ w2 := hw3 ▸ below_regrown _ dq osq
            clear hw3
            have hB := hb.trans (hb2.mono hb.size)
            have hlast : rowOk l k ∧ (rAt l k).v ≠ 0 := ⟨⟨ht, fun h => by omega⟩, hz⟩
            go_wp2
            go_roundw
            case rel => exact ⟨k + 1, by omega, by go_num, hB, upto_succ hs hlast⟩
            case measure => simp [intOf]; omega
      · have ht' : tabB (rAt l k).t = false := by simpa using ht
        clear hcc
        go_wp2_with fail
        refine wp_region_quiet_below (by kernel_rfl) (by kernel_rfl) ?_
        repeat (go_big_quiet_step (first | (go_at_call 39; exact Calls.regrown_of (l1table_any _ _ _)) | (go_at_call 50; exact Calls.regrown_of (specKeyLess_any _ _ _ _ _))))
        refine wpQuiet_nil ?_
        intro w2 hw2
        obtain ⟨⟨dq, osq⟩, hw3⟩ := hw2
        have hb2 : Below _ _ w2 := hw3 ▸ below_regrown _ dq osq
        clear hw3
        have hB := hb.trans (hb2.mono hb.size)
        go_wp2
        go_ret
        exact ⟨says_no fun h => ht (h.1 k hlt).1, hB⟩
    · go_wp2
      go_ret
      exact ⟨says_yes ⟨fun j hj => (hs j (by omega)).1, fun j hj => (hs j (by omega)).2⟩, hb⟩

/-- The value of the first row of that key; else 0. -/
def rowOfF (t r : Int) : List Rw → Int
  | [] => 0
  | x :: l => if x.t = t ∧ x.r = r then x.v else rowOfF t r l

theorem rowOfF_hit {t r : Int} {l : List Rw} {k : Nat} (hk : k < l.length) (h : (rAt l k).t = t ∧ (rAt l k).r = r) (hs : ∀ j, j < k → ¬ ((rAt l j).t = t ∧ (rAt l j).r = r)) : rowOfF t r l = (rAt l k).v := by
  induction l generalizing k with
  | nil => exact absurd hk (Nat.not_lt_zero _)
  | cons x l ih =>
    cases k with
    | zero => simp only [rowOfF]; rw [if_pos (by simpa [rAt] using h)]; simp [rAt]
    | succ k =>
      simp only [rowOfF]
      rw [if_neg (by simpa [rAt] using hs 0 (by omega)), ih (k := k) (by simpa using hk) (by simpa [rAt] using h) (fun j hj => by simpa [rAt] using hs (j + 1) (by omega))]
      simp [rAt]

theorem rowOfF_miss {t r : Int} {l : List Rw} (hs : ∀ j, j < l.length → ¬ ((rAt l j).t = t ∧ (rAt l j).r = r)) : rowOfF t r l = 0 := by
  induction l with
  | nil => rfl
  | cons x l ih =>
    simp only [rowOfF]
    rw [if_neg (by simpa [rAt] using hs 0 (by simp)), ih (fun j hj => by simpa [rAt] using hs (j + 1) (by simpa using hj))]

set_option maxHeartbeats 1000000 in
theorem specRowOf_any (v : Value) (l : List Rw) (t r : Int) (w : World) {lo hi : Nat} (h : RowsAt lo hi w v l) :
    Calls Try.prog 24 #[v, .agg #[.int .i64 t, .int .i64 r]] w fun e w' => e = .returned (.int .i64 (rowOfF t r l)) ∧ Below w.heap.size w w' := by
  obtain ⟨a, cap, rfl, hm, hc⟩ := h
  unfold maxLen at hm
  have hA : Below w.heap.size w (w.alloc (Obj.cells #[Value.int IntKind.i64 t, Value.int IntKind.i64 r] 36)) := (Below.refl _ _).alloc (Nat.le_refl _) _
  have hkeq := key_eql
  go_enter Try.func24, Try.ntmps24
  go_wp2
  go_loopw [5] (fun i wr => ∃ k : Nat, k ≤ l.length ∧ i = .int .i64 k ∧ Below w.heap.size w wr ∧ wr.cell? ⟨w.heap.size, 0, none⟩ = some (.int .i64 t) ∧ wr.cell? ⟨w.heap.size, 1, none⟩ = some (.int .i64 r) ∧ ∀ j, j < k → ¬ ((rAt l j).t = t ∧ (rAt l j).r = r)) (fun i _ => l.length - (intOf i).toNat)
  case atStart => exact ⟨0, Nat.zero_le _, rfl, hA, by simp, by simp, fun j hj => absurd hj (Nat.not_lt_zero _)⟩
  case round =>
    rename World => wo
    obtain ⟨k, hk, rfl, hb, x0, x1, hs⟩ := hrel
    by_cases hlt : k < l.length
    · obtain ⟨b, off, rfl, hlo, hhi, hcc⟩ := hc (by omega)
      obtain ⟨c0, c1, c2⟩ := hcc k hlt
      replace c0 := cell_stays hb c0
      replace c1 := cell_stays hb c1
      replace c2 := cell_stays hb c2
      have k0 := cell_regrown c0
      have k1 := cell_regrown c1
      have k2 := cell_regrown x0
      have k3 := cell_regrown x1
      have i0 : (0 : Int) ≤ (k : Int) := by omega
      have i1 : (k : Int) < (l.length : Int) := by omega
      clear hc hcc
      by_cases he : (rAt l k).t = t ∧ (rAt l k).r = r
      · have he' : decide ((rAt l k).t = t ∧ (rAt l k).r = r) = true := by simpa using he
        have hr := rowOfF_hit hlt he hs
        clear he hs
        go_wp2_with fail
        refine wp_region_quiet_below (by kernel_rfl) (by kernel_rfl) ?_
        repeat (go_big_quiet_step (fail))
        refine wpQuiet_nil ?_
        intro w2 hw2
        obtain ⟨⟨dq, osq⟩, hw3⟩ := hw2
        have hb2 : Below _ _ w2 := hw3 ▸ below_regrown _ dq osq
        clear hw3
        have hB := hb.trans (hb2.mono hb.size)
        have c2' := cell_stays hb2 c2
        go_wp2
        go_ret
        exact ⟨by rw [hr]; rfl, hB⟩
      · have he' : decide ((rAt l k).t = t ∧ (rAt l k).r = r) = false := by simpa using he
        go_wp2_with fail
        refine wp_region_quiet_below (by kernel_rfl) (by kernel_rfl) ?_
        repeat (go_big_quiet_step (fail))
        refine wpQuiet_nil ?_
        intro w2 hw2
        obtain ⟨⟨dq, osq⟩, hw3⟩ := hw2
        have hb2 : Below _ _ w2 := hw3 ▸ below_regrown _ dq osq
        clear hw3
        have hB := hb.trans (hb2.mono hb.size)
        have y0 := cell_stays hb2 x0
        have y1 := cell_stays hb2 x1
        go_wp2
        go_roundw
        case rel => exact ⟨k + 1, by omega, by go_num, hB, y0, y1, upto_succ hs he⟩
        case measure => simp [intOf]; omega
    · have hr := rowOfF_miss (l := l) (t := t) (r := r) (fun j hj => hs j (by omega))
      clear hs
      go_wp2
      go_ret
      exact ⟨by rw [hr]; rfl, hb⟩

end Go.Proofs.Ytifdfelpbonckaa
