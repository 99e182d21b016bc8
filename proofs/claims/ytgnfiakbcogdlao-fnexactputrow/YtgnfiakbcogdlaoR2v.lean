/- The value of a row, both. -/
import Derived.Test.YtgnfiakbcogdlaoR2
namespace Go.Proofs.Ytgnfiakbcogdlao
open Go.ChangeShapes Go.WideShapes Go.ChangeAt Go.RowKit Go.Sort Go.Deep Go.Joins
set_option linter.unusedVariables false
set_option maxRecDepth 100000
attribute [local go_sem ↓] Go.wp_at_zero Go.wp_at_succ

/-- The value of the first row of that key; else 0. -/
def rowOfF (t r : Int) : List Rw → Int
  | [] => 0
  | x :: l => if x.t = t ∧ x.r = r then x.v else rowOfF t r l
theorem rowOfF_hit {t r : Int} {l : List Rw} {k : Nat} (hk : k < l.length) (h : (rAt l k).t = t ∧ (rAt l k).r = r) (hs : ∀ j, j < k → ¬ ((rAt l j).t = t ∧ (rAt l j).r = r)) : rowOfF t r l = (rAt l k).v := by
  induction l generalizing k with
  | nil => exact absurd hk (Nat.not_lt_zero _)
  | cons x l ih =>
    cases k with
    | zero => simp only [rowOfF]; rw [if_pos (by simpa [rAt] using h)]; simp [rAt]
    | succ k =>
      simp only [rowOfF]
      rw [if_neg (by simpa [rAt] using hs 0 (by omega)), ih (k := k) (by simpa using hk) (by simpa [rAt] using h) (fun j hj => by simpa [rAt] using hs (j + 1) (by omega))]
      simp [rAt]
theorem rowOfF_miss {t r : Int} {l : List Rw} (hs : ∀ j, j < l.length → ¬ ((rAt l j).t = t ∧ (rAt l j).r = r)) : rowOfF t r l = 0 := by
  induction l with
  | nil => rfl
  | cons x l ih =>
    simp only [rowOfF]
    rw [if_neg (by simpa [rAt] using hs 0 (by simp)), ih (fun j hj => by simpa [rAt] using hs (j + 1) (by simpa using hj))]

set_option maxHeartbeats 1000000 in
theorem specRowOf_any (v : Value) (l : List Rw) (t r : Int) (w : World) {lo hi : Nat} (h : RowsAt lo hi w v l) :
    Calls Try.prog 16 #[v, .agg #[.int .i64 t, .int .i64 r]] w fun e w' => e = .returned (.int .i64 (rowOfF t r l)) ∧ Below w.heap.size w w' := by
  obtain ⟨a, cap, rfl, hm, hc⟩ := h
  unfold maxLen at hm
  have hA : Below w.heap.size w (w.alloc (Obj.cells #[Value.int IntKind.i64 t, Value.int IntKind.i64 r] 29)) := (Below.refl _ _).alloc (Nat.le_refl _) _
  have hkeq := key_eql
  go_enter Try.func16, Try.ntmps16
  go_wp2
  go_loopw [5] (fun i wr => ∃ k : Nat, k ≤ l.length ∧ i = .int .i64 k ∧ Below w.heap.size w wr ∧ wr.cell? ⟨w.heap.size, 0, none⟩ = some (.int .i64 t) ∧ wr.cell? ⟨w.heap.size, 1, none⟩ = some (.int .i64 r) ∧ ∀ j, j < k → ¬ ((rAt l j).t = t ∧ (rAt l j).r = r)) (fun i _ => l.length - (intOf i).toNat)
  case atStart => exact ⟨0, Nat.zero_le _, rfl, hA, by simp, by simp, fun j hj => absurd hj (Nat.not_lt_zero _)⟩
  case round =>
    rename World => wo
    obtain ⟨k, hk, rfl, hb, x0, x1, hs⟩ := hrel
    by_cases hlt : k < l.length
    · obtain ⟨b, off, rfl, hlo, hhi, hcc⟩ := hc (by omega)
      obtain ⟨c0, c1, c2⟩ := hcc k hlt
      replace c0 := cell_stays hb c0
      replace c1 := cell_stays hb c1
      replace c2 := cell_stays hb c2
      have k0 := cell_regrown c0
      have k1 := cell_regrown c1
      have k2 := cell_regrown x0
      have k3 := cell_regrown x1
      have i0 : (0 : Int) ≤ (k : Int) := by omega
      have i1 : (k : Int) < (l.length : Int) := by omega
      clear hc hcc
      by_cases he : (rAt l k).t = t ∧ (rAt l k).r = r
      · have he' : decide ((rAt l k).t = t ∧ (rAt l k).r = r) = true := by simpa using he
        have hr := rowOfF_hit hlt he hs
        clear he hs
        go_wp2_with fail
        refine wp_region_quiet_below (by kernel_rfl) (by kernel_rfl) ?_
        repeat (go_big_quiet_step (fail))
        refine wpQuiet_nil ?_
        intro w2 hw2
        obtain ⟨⟨dq, osq⟩, hw3⟩ := hw2
        have hb2 : Below _ _ w2 := hw3 ▸ below_regrown _ dq osq
        clear hw3
        have hB := hb.trans (hb2.mono hb.size)
        have c2' := cell_stays hb2 c2
        go_wp2
        go_ret
        exact ⟨by rw [hr]; rfl, hB⟩
      · have he' : decide ((rAt l k).t = t ∧ (rAt l k).r = r) = false := by simpa using he
        go_wp2_with fail
        refine wp_region_quiet_below (by kernel_rfl) (by kernel_rfl) ?_
        repeat (go_big_quiet_step (fail))
        refine wpQuiet_nil ?_
        intro w2 hw2
        obtain ⟨⟨dq, osq⟩, hw3⟩ := hw2
        have hb2 : Below _ _ w2 := hw3 ▸ below_regrown _ dq osq
        clear hw3
        have hB := hb.trans (hb2.mono hb.size)
        have y0 := cell_stays hb2 x0
        have y1 := cell_stays hb2 x1
        go_wp2
        go_roundw
        case rel => exact ⟨k + 1, by omega, by go_num, hB, y0, y1, upto_succ hs he⟩
        case measure => simp [intOf]; omega
    · have hr := rowOfF_miss (l := l) (t := t) (r := r) (fun j hj => hs j (by omega))
      clear hs
      go_wp2
      go_ret
      exact ⟨by rw [hr]; rfl, hb⟩

set_option maxHeartbeats 1000000 in
theorem implRowOf_any (v : Value) (l : List Rw) (t r : Int) (w : World) {lo hi : Nat} (h : RowsAt lo hi w v l) :
    Calls Try.prog 17 #[v, .agg #[.int .i64 t, .int .i64 r]] w fun e w' => e = .returned (.int .i64 (rowOfF t r l)) ∧ Below w.heap.size w w' := by
  obtain ⟨a, cap, rfl, hm, hc⟩ := h
  unfold maxLen at hm
  have hA : Below w.heap.size w (w.alloc (Obj.cells #[Value.int IntKind.i64 t, Value.int IntKind.i64 r] 29)) := (Below.refl _ _).alloc (Nat.le_refl _) _
  go_enter Try.func17, Try.ntmps17
  go_wp2
  go_loopw [9] (fun i wr => ∃ k : Nat, k ≤ l.length ∧ i = .int .i64 k ∧ Below w.heap.size w wr ∧ wr.cell? ⟨w.heap.size, 0, none⟩ = some (.int .i64 t) ∧ wr.cell? ⟨w.heap.size, 1, none⟩ = some (.int .i64 r) ∧ ∀ j, j < k → ¬ ((rAt l j).t = t ∧ (rAt l j).r = r)) (fun i _ => l.length - (intOf i).toNat)
  case atStart => exact ⟨0, Nat.zero_le _, rfl, hA, by simp, by simp, fun j hj => absurd hj (Nat.not_lt_zero _)⟩
  case round =>
    rename World => wo
    obtain ⟨k, hk, rfl, hb, x0, x1, hs⟩ := hrel
    by_cases hlt : k < l.length
    · obtain ⟨b, off, rfl, hlo, hhi, hcc⟩ := hc (by omega)
      obtain ⟨c0, c1, c2⟩ := hcc k hlt
      replace c0 := cell_stays hb c0
      replace c1 := cell_stays hb c1
      replace c2 := cell_stays hb c2
      have i0 : (0 : Int) ≤ (k : Int) := by omega
      have i1 : (k : Int) < (l.length : Int) := by omega
      have hA2 : Below wo.heap.size wo (wo.alloc (Obj.cells #[Value.int IntKind.i64 (rAt l k).t, Value.int IntKind.i64 (rAt l k).r, Value.int IntKind.i64 (rAt l k).v] 74)) := (Below.refl _ _).alloc (Nat.le_refl _) _
      have hB := hb.trans (hA2.mono hb.size)
      have y0 := cell_stays hA2 x0
      have y1 := cell_stays hA2 x1
      have hkeq := key_eql
      clear hc hcc
      by_cases he : (rAt l k).t = t ∧ (rAt l k).r = r
      · have he' : decide ((rAt l k).t = t ∧ (rAt l k).r = r) = true := by simpa using he
        have hr := rowOfF_hit hlt he hs
        clear he hs
        go_wp2
        go_ret
        exact ⟨by rw [hr]; rfl, hB⟩
      · have he' : decide ((rAt l k).t = t ∧ (rAt l k).r = r) = false := by simpa using he
        go_wp2
        go_roundw
        case rel => exact ⟨k + 1, by omega, by go_num, hB, y0, y1, upto_succ hs he⟩
        case measure => simp [intOf]; omega
    · have hr := rowOfF_miss (l := l) (t := t) (r := r) (fun j hj => hs j (by omega))
      clear hs
      go_wp2
      go_ret
      exact ⟨by rw [hr]; rfl, hb⟩
end Go.Proofs.Ytgnfiakbcogdlao
