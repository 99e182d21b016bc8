/- Variables in order, and the value of one: both VarsOk, both VarOf. -/
import Derived.Test.YtgnfiakbcogdlanV0
import Derived.Test.YtgnfiakbcogdlanSays
import Derived.Deep.QuietTactic
import Derived.BigQuiet
import Derived.Lib.QuietBelow
import Derived.Laws.Cover1
namespace Go.Proofs.Ytgnfiakbcogdlan
open Go.ChangeShapes Go.WideShapes Go.ChangeAt Go.RowKit Go.Deep Go.Joins
set_option linter.unusedVariables false
set_option maxRecDepth 100000
attribute [local go_sem ↓] Go.wp_at_zero Go.wp_at_succ

/-- One name is ahead of another. -/
def ltS (x y : ByteArray) : Bool := Op.bytesLess x.toList y.toList
def varOk (l : List Va) (i : Nat) : Prop := 0 < i → ltS (vaAt l (i - 1)).1 (vaAt l i).1 = true
def varsOk (l : List Va) : Prop := ∀ i, i < l.length → varOk l i

set_option maxHeartbeats 1000000 in
theorem specVarsOk_any (v : Value) (l : List Va) (w : World) {lo hi : Nat} (h : VarsAt lo hi w v l) (hn : l.length ≤ 1048576) :
    Calls Try.prog 15 #[v] w fun e w' => Says e (varsOk l) ∧ Below w.heap.size w w' := by
  obtain ⟨a, cap, rfl, hm, hc⟩ := h
  clear hm
  go_enter Try.func15, Try.ntmps15
  go_wp2
  go_loopw [3] (fun i wr => ∃ k : Nat, 1 ≤ k ∧ i = .int .i64 k ∧ (k = 1 ∨ k ≤ l.length) ∧ Below w.heap.size w wr ∧ ∀ j, j < k → varOk l j) (fun i _ => l.length - (intOf i).toNat)
  case atStart => exact ⟨1, Nat.le_refl _, rfl, .inl rfl, Below.refl _ _, fun j hj h0 => absurd h0 (by omega)⟩
  case round =>
    rename World => wo
    obtain ⟨k, hk1, rfl, hk, hb, hs⟩ := hrel
    by_cases hlt : k < l.length
    · obtain ⟨b, off, rfl, hlo, hhi, hcc⟩ := hc (by omega)
      obtain ⟨c0, c1⟩ := hcc k hlt
      obtain ⟨d0, d1⟩ := hcc (k - 1) (by omega)
      have k0 := cell_regrown (cell_stays hb c0)
      have k1 := cell_regrown (cell_stays hb d0)
      have hkp : (0 : Int) < (k : Int) := by omega
      have hkn : 0 < k := by omega
      have i0 : (0 : Int) ≤ (k : Int) := by omega
      have i1 : (k : Int) < (l.length : Int) := by omega
      clear hcc hc c0 c1 d0 d1
      by_cases hd : ltS (vaAt l (k - 1)).1 (vaAt l k).1 = true
      · have hd' : Op.bytesLess (vaAt l (k - 1)).1.toList (vaAt l k).1.toList = true := hd
        go_wp2_with fail
        refine wp_region_quiet_below (by kernel_rfl) (by kernel_rfl) ?_
        repeat (go_big_quiet_step (fail))
        refine wpQuiet_nil ?_
        intro w2 hw2
        obtain ⟨⟨dq, osq⟩, hw3⟩ := hw2
        have hb2 : Below _ _ w2 := hw3 ▸ below_regrown _ dq osq
        clear hw3
        have hB := hb.trans (hb2.mono hb.size)
        have hlast : varOk l k := fun _ => hd
        go_wp2
        go_roundw
        case rel => exact ⟨k + 1, by omega, by go_num, .inr (by omega), hB, upto_succ hs hlast⟩
        case measure => simp [intOf]; omega
      · have hd' : Op.bytesLess (vaAt l (k - 1)).1.toList (vaAt l k).1.toList = false := by simpa [ltS] using hd
        go_wp2_with fail
        refine wp_region_quiet_below (by kernel_rfl) (by kernel_rfl) ?_
        repeat (go_big_quiet_step (fail))
        refine wpQuiet_nil ?_
        intro w2 hw2
        obtain ⟨⟨dq, osq⟩, hw3⟩ := hw2
        have hb2 : Below _ _ w2 := hw3 ▸ below_regrown _ dq osq
        clear hw3
        have hB := hb.trans (hb2.mono hb.size)
        go_wp2
        go_ret
        exact ⟨says_no fun h => hd (h k hlt hkn), hB⟩
    · go_wp2
      go_ret
      exact ⟨says_yes fun j hj => hs j (by omega), hb⟩

set_option maxHeartbeats 1000000 in
theorem implVarsOk_any (v : Value) (l : List Va) (w : World) {lo hi : Nat} (h : VarsAt lo hi w v l) (hn : l.length ≤ 1048576) :
    Calls Try.prog 17 #[v] w fun e w' => Says e (varsOk l) ∧ Below w.heap.size w w' := by
  obtain ⟨a, cap, rfl, hm, hc⟩ := h
  clear hm
  go_enter Try.func17, Try.ntmps17
  go_wp2
  go_loopw [6] (fun i wr => ∃ k : Nat, k ≤ l.length ∧ i = .int .i64 k ∧ Below w.heap.size w wr ∧ ∀ j, j < k → varOk l j) (fun i _ => l.length - (intOf i).toNat)
  case atStart => exact ⟨0, Nat.zero_le _, rfl, Below.refl _ _, fun j hj => absurd hj (Nat.not_lt_zero _)⟩
  case round =>
    rename World => wo
    obtain ⟨k, hk, rfl, hb, hs⟩ := hrel
    by_cases hlt : k < l.length
    · obtain ⟨b, off, rfl, hlo, hhi, hcc⟩ := hc (by omega)
      obtain ⟨c0, c1⟩ := hcc k hlt
      have k0 := cell_regrown (cell_stays hb c0)
      have i0 : (0 : Int) ≤ (k : Int) := by omega
      have i1 : (k : Int) < (l.length : Int) := by omega
      by_cases hkp : (0 : Int) < (k : Int)
      · have hkn : 0 < k := by omega
        obtain ⟨d0, d1⟩ := hcc (k - 1) (by omega)
        have k1 := cell_regrown (cell_stays hb d0)
        clear hcc hc c0 c1 d0 d1
        by_cases hd : ltS (vaAt l (k - 1)).1 (vaAt l k).1 = true
        · have hd' : Op.bytesLess (vaAt l (k - 1)).1.toList (vaAt l k).1.toList = true := hd
          go_wp2_with fail
          refine wp_region_quiet_below (by kernel_rfl) (by kernel_rfl) ?_
          repeat (go_big_quiet_step (fail))
          refine wpQuiet_nil ?_
          intro w2 hw2
          obtain ⟨⟨dq, osq⟩, hw3⟩ := hw2
          have hb2 : Below _ _ w2 := hw3 ▸ below_regrown _ dq osq
          clear hw3
          have hB := hb.trans (hb2.mono hb.size)
          have hlast : varOk l k := fun _ => hd
          go_wp2
          go_roundw
          case rel => exact ⟨k + 1, by omega, by go_num, hB, upto_succ hs hlast⟩
          case measure => simp [intOf]; omega
        · have hd' : Op.bytesLess (vaAt l (k - 1)).1.toList (vaAt l k).1.toList = false := by simpa [ltS] using hd
          go_wp2_with fail
          refine wp_region_quiet_below (by kernel_rfl) (by kernel_rfl) ?_
          repeat (go_big_quiet_step (fail))
          refine wpQuiet_nil ?_
          intro w2 hw2
          obtain ⟨⟨dq, osq⟩, hw3⟩ := hw2
          have hb2 : Below _ _ w2 := hw3 ▸ below_regrown _ dq osq
          clear hw3
          have hB := hb.trans (hb2.mono hb.size)
          go_wp2
          go_ret
          exact ⟨says_no fun h => hd (h k hlt hkn), hB⟩
      · have hk0 : k = 0 := by omega
        subst hk0
        clear hcc hc c0 c1
        go_wp2_with fail
        refine wp_region_quiet_below (by kernel_rfl) (by kernel_rfl) ?_
        repeat (go_big_quiet_step (fail))
        refine wpQuiet_nil ?_
        intro w2 hw2
        obtain ⟨⟨dq, osq⟩, hw3⟩ := hw2
        have hb2 : Below _ _ w2 := hw3 ▸ below_regrown _ dq osq
        clear hw3
        have hB := hb.trans (hb2.mono hb.size)
        have hlast : varOk l 0 := fun h => absurd h (by omega)
        go_wp2
        go_roundw
        case rel => exact ⟨0 + 1, by omega, by go_num, hB, upto_succ hs hlast⟩
        case measure => simp [intOf]; omega
    · go_wp2
      go_ret
      exact ⟨says_yes fun j hj => hs j (by omega), hb⟩

/-- The value of the first variable of that name, from the i-th on; else 0. -/
def varOfF (s : ByteArray) : List Va → Int
  | [] => 0
  | x :: l => if x.1.toList = s.toList then x.2 else varOfF s l
theorem varOfF_hit {s : ByteArray} {l : List Va} {k : Nat} (hk : k < l.length) (h : (vaAt l k).1.toList = s.toList) (hs : ∀ j, j < k → (vaAt l j).1.toList ≠ s.toList) : varOfF s l = (vaAt l k).2 := by
  induction l generalizing k with
  | nil => exact absurd hk (Nat.not_lt_zero _)
  | cons x l ih =>
    cases k with
    | zero => simp only [varOfF]; rw [if_pos (by simpa [vaAt] using h)]; simp [vaAt]
    | succ k =>
      simp only [varOfF]
      rw [if_neg (by simpa [vaAt] using hs 0 (by omega)), ih (k := k) (by simpa using hk) (by simpa [vaAt] using h) (fun j hj => by simpa [vaAt] using hs (j + 1) (by omega))]
      simp [vaAt]
theorem varOfF_miss {s : ByteArray} {l : List Va} (hs : ∀ j, j < l.length → (vaAt l j).1.toList ≠ s.toList) : varOfF s l = 0 := by
  induction l with
  | nil => rfl
  | cons x l ih =>
    simp only [varOfF]
    rw [if_neg (by simpa [vaAt] using hs 0 (by simp)), ih (fun j hj => by simpa [vaAt] using hs (j + 1) (by simpa using hj))]

theorem specVarOf_any (v : Value) (l : List Va) (s : ByteArray) (w : World) {lo hi : Nat} (h : VarsAt lo hi w v l) (hn : l.length ≤ 1048576) :
    Calls Try.prog 19 #[v, .string s] w fun e w' => e = .returned (.int .i64 (varOfF s l)) ∧ Below w.heap.size w w' := by
  obtain ⟨a, cap, rfl, hm, hc⟩ := h
  clear hm
  go_enter Try.func19, Try.ntmps19
  go_wp2
  go_loopw [5] (fun i wr => ∃ k : Nat, k ≤ l.length ∧ i = .int .i64 k ∧ Below w.heap.size w wr ∧ ∀ j, j < k → (vaAt l j).1.toList ≠ s.toList) (fun i _ => l.length - (intOf i).toNat)
  case atStart => exact ⟨0, Nat.zero_le _, rfl, Below.refl _ _, fun j hj => absurd hj (Nat.not_lt_zero _)⟩
  case round =>
    rename World => wo
    obtain ⟨k, hk, rfl, hb, hs⟩ := hrel
    by_cases hlt : k < l.length
    · obtain ⟨b, off, rfl, hlo, hhi, hcc⟩ := hc (by omega)
      obtain ⟨c0, c1⟩ := hcc k hlt
      replace c0 := cell_stays hb c0
      replace c1 := cell_stays hb c1
      have i0 : (0 : Int) ≤ (k : Int) := by omega
      have i1 : (k : Int) < (l.length : Int) := by omega
      clear hcc hc
      by_cases he : (vaAt l k).1.toList = s.toList
      · have he' : ((vaAt l k).1.toList == s.toList) = true := by simpa using he
        have hr := varOfF_hit hlt he hs
        clear he hs
        go_wp2
        go_ret
        exact ⟨by rw [hr]; rfl, hb⟩
      · have he' : ((vaAt l k).1.toList == s.toList) = false := by simpa using he
        go_wp2
        go_roundw
        case rel => exact ⟨k + 1, by omega, by go_num, hb, upto_succ hs he⟩
        case measure => simp [intOf]; omega
    · have hr := varOfF_miss (l := l) (s := s) (fun j hj => hs j (by omega))
      go_wp2
      go_ret
      exact ⟨by rw [hr]; rfl, hb⟩

theorem implVarOf_any (v : Value) (l : List Va) (s : ByteArray) (w : World) {lo hi : Nat} (h : VarsAt lo hi w v l) (hn : l.length ≤ 1048576) :
    Calls Try.prog 20 #[v, .string s] w fun e w' => e = .returned (.int .i64 (varOfF s l)) ∧ Below w.heap.size w w' := by
  obtain ⟨a, cap, rfl, hm, hc⟩ := h
  clear hm
  go_enter Try.func20, Try.ntmps20
  go_wp2
  go_loopw [9] (fun i wr => ∃ k : Nat, k ≤ l.length ∧ i = .int .i64 k ∧ Below w.heap.size w wr ∧ ∀ j, j < k → (vaAt l j).1.toList ≠ s.toList) (fun i _ => l.length - (intOf i).toNat)
  case atStart => exact ⟨0, Nat.zero_le _, rfl, Below.refl _ _, fun j hj => absurd hj (Nat.not_lt_zero _)⟩
  case round =>
    rename World => wo
    obtain ⟨k, hk, rfl, hb, hs⟩ := hrel
    by_cases hlt : k < l.length
    · obtain ⟨b, off, rfl, hlo, hhi, hcc⟩ := hc (by omega)
      obtain ⟨c0, c1⟩ := hcc k hlt
      replace c0 := cell_stays hb c0
      replace c1 := cell_stays hb c1
      have i0 : (0 : Int) ≤ (k : Int) := by omega
      have i1 : (k : Int) < (l.length : Int) := by omega
      have hA : Below wo.heap.size wo (wo.alloc (Obj.cells #[Value.string (vaAt l k).1, Value.int IntKind.i64 (vaAt l k).2] 79)) := (Below.refl _ _).alloc (Nat.le_refl _) _
      have hB := hb.trans (hA.mono hb.size)
      clear hcc hc
      by_cases he : (vaAt l k).1.toList = s.toList
      · have he' : ((vaAt l k).1.toList == s.toList) = true := by simpa using he
        have hr := varOfF_hit hlt he hs
        clear he hs
        go_wp2
        go_ret
        exact ⟨by rw [hr]; rfl, hB⟩
      · have he' : ((vaAt l k).1.toList == s.toList) = false := by simpa using he
        go_wp2
        go_roundw
        case rel => exact ⟨k + 1, by omega, by go_num, hB, upto_succ hs he⟩
        case measure => simp [intOf]; omega
    · have hr := varOfF_miss (l := l) (s := s) (fun j hj => hs j (by omega))
      go_wp2
      go_ret
      exact ⟨by rw [hr]; rfl, hb⟩
end Go.Proofs.Ytgnfiakbcogdlan
