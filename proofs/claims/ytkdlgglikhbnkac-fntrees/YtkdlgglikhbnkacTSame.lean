/- slices.Equal over numbers and texts; the specification's own: what they answer. -/
import Derived.Test.YtkdlgglikhbnkacRows
import Derived.Test.YtkdlgglikhbnkacTSetAt
import Derived.Outline
import Derived.Handy
import Derived.Deep.RegionHeld3
import Derived.Deep.DrawnRows
import Derived.Test.YtkdlgglikhbnkacRegLast
import Derived.Lib.QuietBelow
import Derived.BigQuiet
namespace Go.Proofs.Ytkdlgglikhbnkac
open Go.ChangeShapes Go.WideShapes Go.ChangeAt Go.RowKit
set_option linter.unusedVariables false
set_option maxRecDepth 100000
attribute [local go_sem ↓] Go.wp_at_zero Go.wp_at_succ

/-- The answer is a bool that says whether p. -/
def Tells (e : Ending) (p : Prop) : Prop := ∃ q : Bool, e = .returned (.bool q) ∧ (q = true ↔ p)
theorem tells_true {p : Prop} (h : p) : Tells (.returned (.bool true)) p := ⟨true, rfl, ⟨fun _ => h, fun _ => rfl⟩⟩
theorem tells_false {p : Prop} (h : ¬ p) : Tells (.returned (.bool false)) p := ⟨false, rfl, ⟨fun e => (by cases e), fun e => absurd e h⟩⟩

theorem text_ne {x y : ByteArray} (h : ¬ x = y) : (x.toList == y.toList) = false := by
  rw [ByteArray.toList_eq, ByteArray.toList_eq, beq_eq_false_iff_ne]
  exact fun e => h (bytes_inj e)

theorem ext_iAt {l l' : List Int} (h : l.length = l'.length) (h2 : ∀ j, j < l.length → iAt l j = iAt l' j) : l = l' := by
  apply List.ext_getElem h
  intro i h3 h4
  have := h2 i h3
  simpa [iAt, h3, h4] using this
theorem ext_sAt {l l' : List ByteArray} (h : l.length = l'.length) (h2 : ∀ j, j < l.length → sAt l j = sAt l' j) : l = l' := by
  apply List.ext_getElem h
  intro i h3 h4
  have := h2 i h3
  simpa [sAt, h3, h4] using this
theorem ext_ndAt {l l' : List Nd} (h : l.length = l'.length) (h2 : ∀ j, j < l.length → ndAt l j = ndAt l' j) : l = l' := by
  apply List.ext_getElem h
  intro i h3 h4
  have := h2 i h3
  simpa [ndAt, h3, h4] using this
theorem ext_prAt {l l' : List Pr} (h : l.length = l'.length) (h2 : ∀ j, j < l.length → prAt l j = prAt l' j) : l = l' := by
  apply List.ext_getElem h
  intro i h3 h4
  have := h2 i h3
  simpa [prAt, h3, h4] using this

set_option maxHeartbeats 1000000 in
theorem equalInts_any (v v' : Value) (l l' : List Int) (w : World) {lo hi lo' hi' : Nat} (h : IntsAt lo hi w v l) (h' : IntsAt lo' hi' w v' l') :
    Calls Try.prog 44 #[v, v'] w fun e w' => Tells e (l = l') ∧ Below w.heap.size w w' := by
  obtain ⟨a, cap, rfl, hm, hc⟩ := h
  obtain ⟨a', cap', rfl, hm', hc'⟩ := h'
  unfold maxLen at hm hm'
  by_cases hL : l.length = l'.length
  · have hn : l'.length = l.length := hL.symm
    rw [hn] at hc' ⊢
    change Hid _ at hn
    clear hL
    go_enter Try.func44, Try.ntmps44
    go_wp2
    go_loopw [13] (fun i wr => ∃ k : Nat, k ≤ l.length ∧ i = .int .i64 k ∧ Below w.heap.size w wr ∧ Hid (∀ j, j < k → iAt l j = iAt l' j)) (fun i _ => l.length - (intOf i).toNat)
    case atStart => exact ⟨0, Nat.zero_le _, rfl, Below.refl _ _, fun j hj => absurd hj (Nat.not_lt_zero _)⟩
    case round =>
      obtain ⟨k, hk, rfl, hb, hall⟩ := hrel
      by_cases hlt : k < l.length
      · obtain ⟨b, off, rfl, _, _, hcc⟩ := hc (by omega)
        obtain ⟨b', off', rfl, _, _, hcc'⟩ := hc' (by omega)
        have k0 := cell_regrown (cell_stays hb (hcc k hlt))
        have k1 := cell_regrown (cell_stays hb (hcc' k hlt))
        have i0 : (0 : Int) ≤ (k : Int) := by omega
        have i1 : (k : Int) < (l.length : Int) := by omega
        clear hcc hc hcc' hc' hn
        by_cases he : iAt l k = iAt l' k
        · rw [← he] at k1
          go_wp2_with fail
          refine wp_region_quiet_below (by kernel_rfl) (by kernel_rfl) ?_
          repeat (go_big_quiet_step (fail))
          refine wpQuiet_nil ?_
          intro w4 hw4
          obtain ⟨⟨dq, osq⟩, hw5⟩ := hw4
          have hb4 : Below _ _ w4 := hw5 ▸ below_regrown _ dq osq
          have hall2 : Hid (∀ j, j < k + 1 → iAt l j = iAt l' j) := fun j hj => by
            by_cases e : j = k
            · subst e; exact he
            · exact hall.out j (by omega)
          clear hw5 k0 k1 he
          go_wp2
          go_roundw
          case rel => exact ⟨k + 1, by omega, by go_num, hb.trans (hb4.mono hb.size), hall2⟩
          case measure => simp [intOf]; omega
        · go_wp2_with fail
          refine wp_region_quiet_below (by kernel_rfl) (by kernel_rfl) ?_
          repeat (go_big_quiet_step (fail))
          refine wpQuiet_nil ?_
          intro w4 hw4
          obtain ⟨⟨dq, osq⟩, hw5⟩ := hw4
          have hb4 : Below _ _ w4 := hw5 ▸ below_regrown _ dq osq
          clear hw5 k0 k1
          go_wp2
          go_ret
          exact ⟨tells_false (fun e => he (by rw [e])), hb.trans (hb4.mono hb.size)⟩
      · have hkl : k = l.length := by omega
        subst hkl
        go_wp2
        go_ret
        exact ⟨tells_true (ext_iAt hn.out.symm hall.out), hb⟩
  · have hL' : ¬ ((l.length : Int) = (l'.length : Int)) := by omega
    go_enter Try.func44, Try.ntmps44
    go_wp2
    go_ret
    exact ⟨tells_false (fun e => hL (by rw [e])), Below.refl _ _⟩

set_option maxHeartbeats 1000000 in
theorem equalTexts_any (v v' : Value) (l l' : List ByteArray) (w : World) {lo hi lo' hi' : Nat} (h : TextsAt lo hi w v l) (h' : TextsAt lo' hi' w v' l') :
    Calls Try.prog 45 #[v, v'] w fun e w' => Tells e (l = l') ∧ Below w.heap.size w w' := by
  obtain ⟨a, cap, rfl, hm, hc⟩ := h
  obtain ⟨a', cap', rfl, hm', hc'⟩ := h'
  unfold maxLen at hm hm'
  by_cases hL : l.length = l'.length
  · have hn : l'.length = l.length := hL.symm
    rw [hn] at hc' ⊢
    change Hid _ at hn
    clear hL
    go_enter Try.func45, Try.ntmps45
    go_wp2
    go_loopw [13] (fun i wr => ∃ k : Nat, k ≤ l.length ∧ i = .int .i64 k ∧ Below w.heap.size w wr ∧ Hid (∀ j, j < k → sAt l j = sAt l' j)) (fun i _ => l.length - (intOf i).toNat)
    case atStart => exact ⟨0, Nat.zero_le _, rfl, Below.refl _ _, fun j hj => absurd hj (Nat.not_lt_zero _)⟩
    case round =>
      obtain ⟨k, hk, rfl, hb, hall⟩ := hrel
      by_cases hlt : k < l.length
      · obtain ⟨b, off, rfl, _, _, hcc⟩ := hc (by omega)
        obtain ⟨b', off', rfl, _, _, hcc'⟩ := hc' (by omega)
        have k0 := cell_regrown (cell_stays hb (hcc k hlt))
        have k1 := cell_regrown (cell_stays hb (hcc' k hlt))
        have i0 : (0 : Int) ≤ (k : Int) := by omega
        have i1 : (k : Int) < (l.length : Int) := by omega
        clear hcc hc hcc' hc' hn
        by_cases he : sAt l k = sAt l' k
        · rw [← he] at k1
          go_wp2_with fail
          refine wp_region_quiet_below (by kernel_rfl) (by kernel_rfl) ?_
          repeat (go_big_quiet_step (fail))
          refine wpQuiet_nil ?_
          intro w4 hw4
          obtain ⟨⟨dq, osq⟩, hw5⟩ := hw4
          have hb4 : Below _ _ w4 := hw5 ▸ below_regrown _ dq osq
          have hall2 : Hid (∀ j, j < k + 1 → sAt l j = sAt l' j) := fun j hj => by
            by_cases e : j = k
            · subst e; exact he
            · exact hall.out j (by omega)
          clear hw5 k0 k1 he
          go_wp2
          go_roundw
          case rel => exact ⟨k + 1, by omega, by go_num, hb.trans (hb4.mono hb.size), hall2⟩
          case measure => simp [intOf]; omega
        · have hne := text_ne he
          change Hid _ at he
          go_wp2_with fail
          refine wp_region_quiet_below (by kernel_rfl) (by kernel_rfl) ?_
          repeat (go_big_quiet_step (fail))
          refine wpQuiet_nil ?_
          intro w4 hw4
          obtain ⟨⟨dq, osq⟩, hw5⟩ := hw4
          have hb4 : Below _ _ w4 := hw5 ▸ below_regrown _ dq osq
          clear hw5 k0 k1
          go_wp2
          go_ret
          exact ⟨tells_false (fun e => he.out (by rw [e])), hb.trans (hb4.mono hb.size)⟩
      · have hkl : k = l.length := by omega
        subst hkl
        go_wp2
        go_ret
        exact ⟨tells_true (ext_sAt hn.out.symm hall.out), hb⟩
  · have hL' : ¬ ((l.length : Int) = (l'.length : Int)) := by omega
    go_enter Try.func45, Try.ntmps45
    go_wp2
    go_ret
    exact ⟨tells_false (fun e => hL (by rw [e])), Below.refl _ _⟩

end Go.Proofs.Ytkdlgglikhbnkac
