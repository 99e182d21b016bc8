/- szMgr: how great the whole is. -/
import Derived.Test.YtgnfiakbcogdlakMData
import Derived.Test.YtgnfiakbcogdlakCopy
namespace Go.Proofs.Ytgnfiakbcogdlak
open Go.ChangeShapes Go.WideShapes Go.ChangeAt Go.RowKit Go.Sort
set_option linter.unusedVariables false
set_option maxRecDepth 100000
attribute [local go_sem ↓] Go.wp_at_zero Go.wp_at_succ

theorem szRowS_any (v : Value) (l : List Rw) (w : World) {lo hi : Nat} (h : RowsAt lo hi w v l) (left : Int) (h0 : 0 ≤ left) (h1 : left ≤ 1048576) :
    Calls Try.prog 38 #[v, .int .i64 left] w fun e w' => ∃ r, e = .returned (.int .i64 r) ∧ r ≤ left ∧ (0 ≤ r → l.length ≤ 1048576) ∧ w' = w := by
  obtain ⟨a, cap, rfl, hm, hc⟩ := h
  clear hc
  unfold maxLen at hm
  by_cases hlt : left - l.length < 0
  · go_enter Try.func38, Try.ntmps38
    go_wp2
    go_ret
    exact ⟨_, rfl, by omega, by omega, rfl⟩
  · go_enter Try.func38, Try.ntmps38
    go_wp2
    go_ret
    exact ⟨_, rfl, by omega, by omega, rfl⟩
theorem szEvS_any (v : Value) (l : List Ed) (w : World) {lo hi : Nat} (h : EvsAt lo hi w v l) (left : Int) (h0 : 0 ≤ left) (h1 : left ≤ 1048576) :
    Calls Try.prog 11 #[v, .int .i64 left] w fun e w' => ∃ r, e = .returned (.int .i64 r) ∧ r ≤ left ∧ (0 ≤ r → l.length ≤ 1048576) ∧ w' = w := by
  obtain ⟨a, cap, rfl, hm, hc⟩ := h
  clear hc
  unfold maxLen at hm
  by_cases hlt : left - l.length < 0
  · go_enter Try.func11, Try.ntmps11
    go_wp2
    go_ret
    exact ⟨_, rfl, by omega, by omega, rfl⟩
  · go_enter Try.func11, Try.ntmps11
    go_wp2
    go_ret
    exact ⟨_, rfl, by omega, by omega, rfl⟩

theorem szTx_any (i s : Int) (v : Value) (l : List Rw) (w : World) {lo hi : Nat} (h : RowsAt lo hi w v l) (left : Int) (h0 : 0 ≤ left) (h1 : left ≤ 1048576) :
    Calls Try.prog 24 #[.agg #[.int .i64 i, .int .i64 s, v], .int .i64 left] w fun e w' => ∃ q, e = .returned (.int .i64 q) ∧ q ≤ left ∧ (0 ≤ q → l.length ≤ 1048576) ∧ Below w.heap.size w w' := by
  obtain ⟨a, cap, hv⟩ : ∃ a cap, v = .slice a l.length cap := by obtain ⟨a, cap, h1, _⟩ := h; exact ⟨a, cap, h1⟩
  subst hv
  have hbx : Below w.heap.size w (w.alloc (Obj.cells #[Value.int IntKind.i64 i, Value.int IntKind.i64 s, Value.slice a l.length cap] 67)) := (Below.refl _ _).alloc (Nat.le_refl _) _
  go_enter Try.func24, Try.ntmps24
  go_wp2_with fail
  refine (szRowS_any _ l _ (h.stays hbx) _ h0 h1).mono ?_
  rintro e w2 ⟨q, rfl, hq, hl, rfl⟩
  by_cases hlt : q < 0
  · go_wp2
    go_ret
    exact ⟨_, rfl, by omega, by omega, hbx⟩
  · go_wp2
    go_ret
    exact ⟨_, rfl, by omega, fun _ => hl (by omega), hbx⟩

theorem szTxS_any (v : Value) (l : List Td) (w : World) {lo hi : Nat} (h : TxsAt lo hi w v l) (left : Int) (h0 : 0 ≤ left) (h1 : left ≤ 1048576) :
    Calls Try.prog 10 #[v, .int .i64 left] w fun e w' => ∃ q, e = .returned (.int .i64 q) ∧ q ≤ left ∧ (0 ≤ q → l.length ≤ 1048576 ∧ ∀ i, i < l.length → (tAt l i).w.length ≤ 1048576) ∧ Below w.heap.size w w' := by
  obtain ⟨a, cap, rfl, hm, hc⟩ := h
  unfold maxLen at hm
  by_cases hlt : left - l.length < 0
  · go_enter Try.func10, Try.ntmps10
    go_wp2
    go_ret
    exact ⟨_, rfl, by omega, by omega, Below.refl _ _⟩
  · go_enter Try.func10, Try.ntmps10
    go_wp2
    go_loopw [1, 5] (fun q i wr => ∃ (k : Nat) (x : Int), k ≤ l.length ∧ i = .int .i64 k ∧ q = .int .i64 x ∧ 0 ≤ x ∧ x ≤ left ∧ Below w.heap.size w wr ∧ ∀ j, j < k → (tAt l j).w.length ≤ 1048576) (fun _ i _ => l.length - (intOf i).toNat)
    case atStart => exact ⟨0, _, Nat.zero_le _, rfl, rfl, by omega, by omega, Below.refl _ _, fun j hj => absurd hj (Nat.not_lt_zero _)⟩
    case round =>
      obtain ⟨k, x, hk, rfl, rfl, hx0, hx1, hb, hs⟩ := hrel
      by_cases hkl : k < l.length
      · obtain ⟨b, off, rfl, hlo, hhi, hcc⟩ := hc (by omega)
        obtain ⟨c0, c1, a2, cap2, c2, c3⟩ := hcc k hkl
        replace c0 := cell_stays hb c0
        replace c1 := cell_stays hb c1
        replace c2 := cell_stays hb c2
        have c2' : wr.cell? ⟨b, off + k * 3 + 1 + 1, none⟩ = some (.slice a2 (tAt l k).w.length cap2) := c2
        replace c3 := c3.stays hb
        clear hcc hc
        go_wp2_with (go_at_call 24; refine (szTx_any _ _ _ _ _ c3 _ hx0 (by omega)).mono ?_; rintro e w1 ⟨q, rfl, hq, hl, hb1⟩)
        · go_ret
          exact ⟨_, rfl, by omega, by omega, hb.trans (hb1.mono hb.size)⟩
        · go_roundw
          case rel =>
            refine ⟨k + 1, _, by omega, by go_num, rfl, by omega, by omega, hb.trans (hb1.mono hb.size), fun j hj => ?_⟩
            by_cases e : j = k
            · subst e; exact hl (by omega)
            · exact hs j (by omega)
          case measure => simp [intOf]; omega
      · have hkk : k = l.length := by omega
        go_wp2
        go_ret
        exact ⟨_, rfl, by omega, fun _ => ⟨by omega, fun i hi => hs i (by omega)⟩, hb⟩

theorem szMgr_any (vs vt ve : Value) (m : Md) (w : World) {lo hi : Nat} (h : MAt lo hi w vs vt ve m) (left : Int) (h0 : 0 ≤ left) (h1 : left ≤ 1048576) :
    Calls Try.prog 4 #[.agg #[vs, .int .i64 m.c, .int .i64 m.n, vt, ve], .int .i64 left] w fun e w' => ∃ q, e = .returned (.int .i64 q) ∧ q ≤ left ∧ (0 ≤ q → SmallM m) ∧ Below w.heap.size w w' := by
  obtain ⟨a1, caps, hvs⟩ : ∃ a cap, vs = .slice a m.s.length cap := by obtain ⟨a, cap, h1, _⟩ := h.s; exact ⟨a, cap, h1⟩
  obtain ⟨a2, capt, hvt⟩ : ∃ a cap, vt = .slice a m.x.length cap := by obtain ⟨a, cap, h1, _⟩ := h.x; exact ⟨a, cap, h1⟩
  obtain ⟨a3, cape, hve⟩ : ∃ a cap, ve = .slice a m.h.length cap := by obtain ⟨a, cap, h1, _⟩ := h.h; exact ⟨a, cap, h1⟩
  subst hvs hvt hve
  have hbx : Below w.heap.size w (w.alloc (Obj.cells #[Value.slice a1 m.s.length caps, .int .i64 m.c, .int .i64 m.n, Value.slice a2 m.x.length capt, Value.slice a3 m.h.length cape] 28)) := (Below.refl _ _).alloc (Nat.le_refl _) _
  go_enter Try.func4, Try.ntmps4
  go_wp2_with fail
  refine (szStore_any _ m.s _ (h.s.stays hbx) _ h0 h1).mono ?_
  rintro e w1 ⟨q, rfl, hq, hl, hb1⟩
  obtain ⟨hc1, hf1⟩ := bcell hb1
  have hb2 := hbx.trans (hb1.mono hbx.size)
  by_cases hlt : q < 0
  · go_wp2
    go_ret
    exact ⟨_, rfl, by omega, by omega, hb2⟩
  go_wp2_with fail
  refine (szTxS_any _ m.x _ (h.x.stays hb2) _ (by omega) (by omega)).mono ?_
  rintro e w3 ⟨q3, rfl, hq3, hl3, hb3⟩
  obtain ⟨hc3, hf3⟩ := bcell hb3
  have hz3 : w.heap.size < w1.heap.size := by have := hb1.size; simp at this; omega
  have hb4 := hb2.trans (hb3.mono hb2.size)
  by_cases hlt3 : q3 < 0
  · go_wp2
    go_ret
    exact ⟨_, rfl, by omega, by omega, hb4⟩
  go_wp2_with fail
  refine (szEvS_any _ m.h _ (h.h.stays hb4) _ (by omega) (by omega)).mono ?_
  rintro e w5 ⟨q5, rfl, hq5, hl5, rfl⟩
  by_cases hlt5 : q5 < 0
  · go_wp2
    go_ret
    exact ⟨_, rfl, by omega, by omega, hb4⟩
  go_wp2
  go_ret
  exact ⟨_, rfl, by omega, fun _ => ⟨hl (by omega), (hl3 (by omega)).1, (hl3 (by omega)).2, hl5 (by omega)⟩, hb4⟩

end Go.Proofs.Ytgnfiakbcogdlak
