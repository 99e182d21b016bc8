/- Variables in order: both VarsOk. -/
import Derived.Test.YtjikmpdgednlaaaV0
import Derived.Test.YtjikmpdgednlaaaSays
import Derived.Deep.QuietTactic
import Derived.BigQuiet
import Derived.Lib.QuietBelow
import Derived.Laws.Cover1
namespace Go.Proofs.Ytjikmpdgednlaaa
open Go.ChangeShapes Go.WideShapes Go.ChangeAt Go.RowKit Go.Deep Go.Joins
set_option linter.unusedVariables false
set_option maxRecDepth 100000
attribute [local go_sem ↓] Go.wp_at_zero Go.wp_at_succ

/-- One name is ahead of another. -/
def ltS (x y : ByteArray) : Bool := Op.bytesLess x.toList y.toList
def varOk (l : List Va) (i : Nat) : Prop := 0 < i → ltS (vaAt l (i - 1)).1 (vaAt l i).1 = true
def varsOk (l : List Va) : Prop := ∀ i, i < l.length → varOk l i

set_option maxHeartbeats 1000000 in
theorem specVarsOk_any (v : Value) (l : List Va) (w : World) {lo hi : Nat} (h : VarsAt lo hi w v l) (hn : l.length ≤ 1048576) :
    Calls Try.prog 17 #[v] w fun e w' => Says e (varsOk l) ∧ Below w.heap.size w w' := by
  obtain ⟨a, cap, rfl, hm, hc⟩ := h
  clear hm
  go_enter Try.func17, Try.ntmps17
  go_wp2
  go_loopw [3] (fun i wr => ∃ k : Nat, 1 ≤ k ∧ i = .int .i64 k ∧ (k = 1 ∨ k ≤ l.length) ∧ Below w.heap.size w wr ∧ ∀ j, j < k → varOk l j) (fun i _ => l.length - (intOf i).toNat)
  case atStart => exact ⟨1, Nat.le_refl _, rfl, .inl rfl, Below.refl _ _, fun j hj h0 => absurd h0 (by omega)⟩
  case round =>
    rename World => wo
    obtain ⟨k, hk1, rfl, hk, hb, hs⟩ := hrel
    by_cases hlt : k < l.length
    · obtain ⟨b, off, rfl, hlo, hhi, hcc⟩ := hc (by omega)
      obtain ⟨c0, c1⟩ := hcc k hlt
      obtain ⟨d0, d1⟩ := hcc (k - 1) (by omega)
      have k0 := cell_regrown (cell_stays hb c0)
      have k1 := cell_regrown (cell_stays hb d0)
      have hkp : (0 : Int) < (k : Int) := by omega
      have hkn : 0 < k := by omega
      have i0 : (0 : Int) ≤ (k : Int) := by omega
      have i1 : (k : Int) < (l.length : Int) := by omega
      clear hcc hc c0 c1 d0 d1
      by_cases hd : ltS (vaAt l (k - 1)).1 (vaAt l k).1 = true
      · have hd' : Op.bytesLess (vaAt l (k - 1)).1.toList (vaAt l k).1.toList = true := hd
        go_wp2_with fail
        refine wp_region_quiet_below (by kernel_rfl) (by kernel_rfl) ?_
        repeat (go_big_quiet_step (fail))
        refine wpQuiet_nil ?_
        intro w2 hw2
        obtain ⟨⟨dq, osq⟩, hw3⟩ := hw2
        have hb2 : Below _ _ w2 := hw3 ▸ below_regrown _ dq osq
        clear hw3
        have hB := hb.trans (hb2.mono hb.size)
        have hlast : varOk l k := fun _ => hd
        go_wp2
        go_roundw
        case rel => exact ⟨k + 1, by omega, by go_num, .inr (by omega), hB, upto_succ hs hlast⟩
        case measure => simp [intOf]; omega
      · have hd' : Op.bytesLess (vaAt l (k - 1)).1.toList (vaAt l k).1.toList = false := by simpa [ltS] using hd
        go_wp2_with fail
        refine wp_region_quiet_below (by kernel_rfl) (by kernel_rfl) ?_
        repeat (go_big_quiet_step (fail))
        refine wpQuiet_nil ?_
        intro w2 hw2
        obtain ⟨⟨dq, osq⟩, hw3⟩ := hw2
        have hb2 : Below _ _ w2 := hw3 ▸ below_regrown _ dq osq
        clear hw3
        have hB := hb.trans (hb2.mono hb.size)
        go_wp2
        go_ret
        exact ⟨says_no fun h => hd (h k hlt hkn), hB⟩
    · go_wp2
      go_ret
      exact ⟨says_yes fun j hj => hs j (by omega), hb⟩

set_option maxHeartbeats 1000000 in
theorem implVarsOk_any (v : Value) (l : List Va) (w : World) {lo hi : Nat} (h : VarsAt lo hi w v l) (hn : l.length ≤ 1048576) :
    Calls Try.prog 25 #[v] w fun e w' => Says e (varsOk l) ∧ Below w.heap.size w w' := by
  obtain ⟨a, cap, rfl, hm, hc⟩ := h
  clear hm
  go_enter Try.func25, Try.ntmps25
  go_wp2
  go_loopw [6] (fun i wr => ∃ k : Nat, k ≤ l.length ∧ i = .int .i64 k ∧ Below w.heap.size w wr ∧ ∀ j, j < k → varOk l j) (fun i _ => l.length - (intOf i).toNat)
  case atStart => exact ⟨0, Nat.zero_le _, rfl, Below.refl _ _, fun j hj => absurd hj (Nat.not_lt_zero _)⟩
  case round =>
    rename World => wo
    obtain ⟨k, hk, rfl, hb, hs⟩ := hrel
    by_cases hlt : k < l.length
    · obtain ⟨b, off, rfl, hlo, hhi, hcc⟩ := hc (by omega)
      obtain ⟨c0, c1⟩ := hcc k hlt
      have k0 := cell_regrown (cell_stays hb c0)
      have i0 : (0 : Int) ≤ (k : Int) := by omega
      have i1 : (k : Int) < (l.length : Int) := by omega
      by_cases hkp : (0 : Int) < (k : Int)
      · have hkn : 0 < k := by omega
        obtain ⟨d0, d1⟩ := hcc (k - 1) (by omega)
        have k1 := cell_regrown (cell_stays hb d0)
        clear hcc hc c0 c1 d0 d1
        by_cases hd : ltS (vaAt l (k - 1)).1 (vaAt l k).1 = true
        · have hd' : Op.bytesLess (vaAt l (k - 1)).1.toList (vaAt l k).1.toList = true := hd
          go_wp2_with fail
          refine wp_region_quiet_below (by kernel_rfl) (by kernel_rfl) ?_
          repeat (go_big_quiet_step (fail))
          refine wpQuiet_nil ?_
          intro w2 hw2
          obtain ⟨⟨dq, osq⟩, hw3⟩ := hw2
          have hb2 : Below _ _ w2 := hw3 ▸ below_regrown _ dq osq
          clear hw3
          have hB := hb.trans (hb2.mono hb.size)
          have hlast : varOk l k := fun _ => hd
          go_wp2
          go_roundw
          case rel => exact ⟨k + 1, by omega, by go_num, hB, upto_succ hs hlast⟩
          case measure => simp [intOf]; omega
        · have hd' : Op.bytesLess (vaAt l (k - 1)).1.toList (vaAt l k).1.toList = false := by simpa [ltS] using hd
          go_wp2_with fail
          refine wp_region_quiet_below (by kernel_rfl) (by kernel_rfl) ?_
          repeat (go_big_quiet_step (fail))
          refine wpQuiet_nil ?_
          intro w2 hw2
          obtain ⟨⟨dq, osq⟩, hw3⟩ := hw2
          have hb2 : Below _ _ w2 := hw3 ▸ below_regrown _ dq osq
          clear hw3
          have hB := hb.trans (hb2.mono hb.size)
          go_wp2
          go_ret
          exact ⟨says_no fun h => hd (h k hlt hkn), hB⟩
      · have hk0 : k = 0 := by omega
        subst hk0
        clear hcc hc c0 c1
        go_wp2_with fail
        refine wp_region_quiet_below (by kernel_rfl) (by kernel_rfl) ?_
        repeat (go_big_quiet_step (fail))
        refine wpQuiet_nil ?_
        intro w2 hw2
        obtain ⟨⟨dq, osq⟩, hw3⟩ := hw2
        have hb2 : Below _ _ w2 := hw3 ▸ below_regrown _ dq osq
        clear hw3
        have hB := hb.trans (hb2.mono hb.size)
        have hlast : varOk l 0 := fun h => absurd h (by omega)
        go_wp2
        go_roundw
        case rel => exact ⟨0 + 1, by omega, by go_num, hB, upto_succ hs hlast⟩
        case measure => simp [intOf]; omega
    · go_wp2
      go_ret
      exact ⟨says_yes fun j hj => hs j (by omega), hb⟩

end Go.Proofs.Ytjikmpdgednlaaa
