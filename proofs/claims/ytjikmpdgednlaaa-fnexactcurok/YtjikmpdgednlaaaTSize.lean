/- The sizes of sets, as the exact laws reckon them. -/
import Derived.Test.YtjikmpdgednlaaaTCopy
namespace Go.Proofs.Ytjikmpdgednlaaa
open Go.ChangeShapes Go.WideShapes Go.ChangeAt Go.RowKit
set_option linter.unusedVariables false
set_option maxRecDepth 100000
attribute [local go_sem ↓] Go.wp_at_zero Go.wp_at_succ

/-- Numbers that are numbers, texts that are no longer than a text can be. -/
def WfN (l : List Nd) : Prop := ∀ i, i < l.length → (ndAt l i).s.size ≤ maxLen ∧ wf (ndAt l i).k ∧ wf (ndAt l i).n ∧ ∀ j, j < (ndAt l i).kids.length → wf (iAt (ndAt l i).kids j)
def WfP (l : List Pr) : Prop := ∀ i, i < l.length → (prAt l i).name.size ≤ maxLen ∧ wf (prAt l i).body ∧ ∀ j, j < (prAt l i).ps.length → (sAt (prAt l i).ps j).size ≤ maxLen

theorem szIntS_any (v : Value) (l : List Int) (w : World) {lo hi : Nat} (h : IntsAt lo hi w v l) (left : Int) (h0 : 0 ≤ left) (h1 : left ≤ 1048576) :
    Calls Try.prog 52 #[v, .int .i64 left] w fun e w' => ∃ r, e = .returned (.int .i64 r) ∧ r ≤ left ∧ (0 ≤ r → l.length ≤ 1048576) ∧ w' = w := by
  obtain ⟨a, cap, rfl, hm, hc⟩ := h
  clear hc
  unfold maxLen at hm
  by_cases hlt : left - l.length < 0
  · go_enter Try.func52, Try.ntmps52
    go_wp2
    go_ret
    exact ⟨_, rfl, by omega, by omega, rfl⟩
  · go_enter Try.func52, Try.ntmps52
    go_wp2
    go_ret
    exact ⟨_, rfl, by omega, by omega, rfl⟩

theorem szNode_any (k : Int) (s : ByteArray) (n : Int) (v : Value) (l : List Int) (w : World) {lo hi : Nat} (h : IntsAt lo hi w v l) (hs : s.size ≤ maxLen) (left : Int) (h0 : 0 ≤ left) (h1 : left ≤ 1048576) :
    Calls Try.prog 31 #[.agg #[.int .i64 k, .string s, .int .i64 n, v], .int .i64 left] w fun e w' => ∃ q, e = .returned (.int .i64 q) ∧ q ≤ left ∧ (0 ≤ q → s.size ≤ 1048576 ∧ l.length ≤ 1048576) ∧ Below w.heap.size w w' := by
  obtain ⟨a, cap, hv⟩ : ∃ a cap, v = .slice a l.length cap := by obtain ⟨a, cap, h1, _⟩ := h; exact ⟨a, cap, h1⟩
  subst hv
  unfold maxLen at hs
  have hbx : Below w.heap.size w (w.alloc (Obj.cells #[.int .i64 k, .string s, .int .i64 n, Value.slice a l.length cap] 64)) := (Below.refl _ _).alloc (Nat.le_refl _) _
  by_cases hls : left - s.size < 0
  · go_enter Try.func31, Try.ntmps31
    go_wp2
    go_ret
    exact ⟨_, rfl, by omega, by omega, hbx⟩
  go_enter Try.func31, Try.ntmps31
  go_wp2_with fail
  refine (szIntS_any _ l _ (h.stays hbx) _ (by omega) (by omega)).mono ?_
  rintro e w2 ⟨q, rfl, hq, hl, rfl⟩
  by_cases hlt : q < 0
  · go_wp2
    go_ret
    exact ⟨_, rfl, by omega, by omega, hbx⟩
  · go_wp2
    go_ret
    exact ⟨_, rfl, by omega, by omega, hbx⟩

theorem szNodeS_any (v : Value) (l : List Nd) (w : World) {lo hi : Nat} (h : NodesAt lo hi w v l) (hw : WfN l) (left : Int) (h0 : 0 ≤ left) (h1 : left ≤ 1048576) :
    Calls Try.prog 12 #[v, .int .i64 left] w fun e w' => ∃ q, e = .returned (.int .i64 q) ∧ q ≤ left ∧ (0 ≤ q → SmallN l ∧ ∀ i, i < l.length → (ndAt l i).s.size ≤ 1048576) ∧ Below w.heap.size w w' := by
  obtain ⟨a, cap, rfl, hm, hc⟩ := h
  unfold maxLen at hm
  by_cases hlt : left - l.length < 0
  · go_enter Try.func12, Try.ntmps12
    go_wp2
    go_ret
    exact ⟨_, rfl, by omega, by omega, Below.refl _ _⟩
  · go_enter Try.func12, Try.ntmps12
    go_wp2
    go_loopw [1, 5] (fun q i wr => ∃ (k : Nat) (x : Int), k ≤ l.length ∧ i = .int .i64 k ∧ q = .int .i64 x ∧ 0 ≤ x ∧ x ≤ left ∧ Below w.heap.size w wr ∧ Hid (∀ j, j < k → (ndAt l j).s.size ≤ 1048576 ∧ (ndAt l j).kids.length ≤ 1048576)) (fun _ i _ => l.length - (intOf i).toNat)
    case atStart => exact ⟨0, _, Nat.zero_le _, rfl, rfl, by omega, by omega, Below.refl _ _, fun j hj => absurd hj (Nat.not_lt_zero _)⟩
    case round =>
      obtain ⟨k, x, hk, rfl, rfl, hx0, hx1, hb, hs⟩ := hrel
      by_cases hkl : k < l.length
      · obtain ⟨b, off, rfl, hlo, hhi, hcc⟩ := hc (by omega)
        obtain ⟨c0, c1, c2, a2, cap2, c3, c4⟩ := hcc k hkl
        have c0 := cell_stays hb c0
        have c1 := cell_stays hb c1
        have c2 := cell_stays hb c2
        have c3 := cell_stays hb c3
        have c4 := c4.stays hb
        have hss := (hw k hkl).1
        clear hcc hc
        go_wp2_with (go_at_call 31; refine (szNode_any _ _ _ _ _ _ c4 hss _ hx0 (by omega)).mono ?_; rintro e w1 ⟨q, rfl, hq, hl, hb1⟩)
        · go_ret
          exact ⟨_, rfl, by omega, by omega, hb.trans (hb1.mono hb.size)⟩
        · go_roundw
          case rel =>
            refine ⟨k + 1, _, by omega, by go_num, rfl, by omega, by omega, hb.trans (hb1.mono hb.size), fun j hj => ?_⟩
            by_cases e : j = k
            · subst e; exact hl (by omega)
            · exact hs.out j (by omega)
          case measure => simp [intOf]; omega
      · have hkk : k = l.length := by omega
        go_wp2
        go_ret
        exact ⟨_, rfl, by omega, fun _ => ⟨⟨by omega, fun i hi => (hs.out i (by omega)).2⟩, fun i hi => (hs.out i (by omega)).1⟩, hb⟩

theorem szStringS_any (v : Value) (l : List ByteArray) (w : World) {lo hi : Nat} (h : TextsAt lo hi w v l) (hw : ∀ j, j < l.length → (sAt l j).size ≤ maxLen) (left : Int) (h0 : 0 ≤ left) (h1 : left ≤ 1048576) :
    Calls Try.prog 53 #[v, .int .i64 left] w fun e w' => ∃ q, e = .returned (.int .i64 q) ∧ q ≤ left ∧ (0 ≤ q → l.length ≤ 1048576 ∧ ∀ j, j < l.length → (sAt l j).size ≤ 1048576) ∧ w' = w := by
  obtain ⟨a, cap, rfl, hm, hc⟩ := h
  unfold maxLen at hm
  by_cases hlt : left - l.length < 0
  · go_enter Try.func53, Try.ntmps53
    go_wp2
    go_ret
    exact ⟨_, rfl, by omega, by omega, rfl⟩
  · go_enter Try.func53, Try.ntmps53
    go_wp2
    go_loopw [1, 5] (fun q i wr => ∃ (k : Nat) (x : Int), k ≤ l.length ∧ i = .int .i64 k ∧ q = .int .i64 x ∧ 0 ≤ x ∧ x ≤ left ∧ wr = w ∧ Hid (∀ j, j < k → (sAt l j).size ≤ 1048576)) (fun _ i _ => l.length - (intOf i).toNat)
    case atStart => exact ⟨0, _, Nat.zero_le _, rfl, rfl, by omega, by omega, rfl, fun j hj => absurd hj (Nat.not_lt_zero _)⟩
    case round =>
      obtain ⟨k, x, hk, rfl, rfl, hx0, hx1, rfl, hs⟩ := hrel
      by_cases hkl : k < l.length
      · obtain ⟨b, off, rfl, hlo, hhi, hcc⟩ := hc (by omega)
        have c0 := hcc k hkl
        have hss := hw k hkl
        unfold maxLen at hss
        clear hcc hc hw
        by_cases hls : x - (sAt l k).size < 0
        · go_wp2
          go_ret
          exact ⟨_, rfl, by omega, by omega, rfl⟩
        · go_wp2
          go_roundw
          case rel =>
            refine ⟨k + 1, _, by omega, by go_num, rfl, by omega, by omega, trivial, fun j hj => ?_⟩
            by_cases e : j = k
            · subst e; omega
            · exact hs.out j (by omega)
          case measure => simp [intOf]; omega
      · have hkk : k = l.length := by omega
        go_wp2
        go_ret
        exact ⟨_, rfl, by omega, fun _ => ⟨by omega, fun i hi => hs.out i (by omega)⟩, rfl⟩

theorem szProc_any (nm : ByteArray) (v : Value) (l : List ByteArray) (n : Int) (w : World) {lo hi : Nat} (h : TextsAt lo hi w v l) (hs : nm.size ≤ maxLen) (hw : ∀ j, j < l.length → (sAt l j).size ≤ maxLen) (left : Int) (h0 : 0 ≤ left) (h1 : left ≤ 1048576) :
    Calls Try.prog 32 #[.agg #[.string nm, v, .int .i64 n], .int .i64 left] w fun e w' => ∃ q, e = .returned (.int .i64 q) ∧ q ≤ left ∧ (0 ≤ q → nm.size ≤ 1048576 ∧ l.length ≤ 1048576 ∧ ∀ j, j < l.length → (sAt l j).size ≤ 1048576) ∧ Below w.heap.size w w' := by
  obtain ⟨a, cap, hv⟩ : ∃ a cap, v = .slice a l.length cap := by obtain ⟨a, cap, h1, _⟩ := h; exact ⟨a, cap, h1⟩
  subst hv
  unfold maxLen at hs
  have hbx : Below w.heap.size w (w.alloc (Obj.cells #[.string nm, Value.slice a l.length cap, .int .i64 n] 68)) := (Below.refl _ _).alloc (Nat.le_refl _) _
  by_cases hls : left - nm.size < 0
  · go_enter Try.func32, Try.ntmps32
    go_wp2
    go_ret
    exact ⟨_, rfl, by omega, by omega, hbx⟩
  go_enter Try.func32, Try.ntmps32
  go_wp2_with fail
  refine (szStringS_any _ l _ (h.stays hbx) hw _ (by omega) (by omega)).mono ?_
  rintro e w2 ⟨q, rfl, hq, hl, rfl⟩
  by_cases hlt : q < 0
  · go_wp2
    go_ret
    exact ⟨_, rfl, by omega, by omega, hbx⟩
  · have hl' := hl (by omega)
    clear hl hw
    change Hid _ at hl'
    go_wp2
    go_ret
    exact ⟨_, rfl, by omega, fun _ => ⟨by omega, hl'.out.1, hl'.out.2⟩, hbx⟩

theorem szProcS_any (v : Value) (l : List Pr) (w : World) {lo hi : Nat} (h : ProcsAt lo hi w v l) (hw : WfP l) (left : Int) (h0 : 0 ≤ left) (h1 : left ≤ 1048576) :
    Calls Try.prog 13 #[v, .int .i64 left] w fun e w' => ∃ q, e = .returned (.int .i64 q) ∧ q ≤ left ∧ (0 ≤ q → SmallP l ∧ ∀ i, i < l.length → (prAt l i).name.size ≤ 1048576 ∧ ∀ j, j < (prAt l i).ps.length → (sAt (prAt l i).ps j).size ≤ 1048576) ∧ Below w.heap.size w w' := by
  obtain ⟨a, cap, rfl, hm, hc⟩ := h
  unfold maxLen at hm
  by_cases hlt : left - l.length < 0
  · go_enter Try.func13, Try.ntmps13
    go_wp2
    go_ret
    exact ⟨_, rfl, by omega, by omega, Below.refl _ _⟩
  · go_enter Try.func13, Try.ntmps13
    go_wp2
    go_loopw [1, 5] (fun q i wr => ∃ (k : Nat) (x : Int), k ≤ l.length ∧ i = .int .i64 k ∧ q = .int .i64 x ∧ 0 ≤ x ∧ x ≤ left ∧ Below w.heap.size w wr ∧ Hid (∀ j, j < k → (prAt l j).name.size ≤ 1048576 ∧ (prAt l j).ps.length ≤ 1048576 ∧ ∀ i, i < (prAt l j).ps.length → (sAt (prAt l j).ps i).size ≤ 1048576)) (fun _ i _ => l.length - (intOf i).toNat)
    case atStart => exact ⟨0, _, Nat.zero_le _, rfl, rfl, by omega, by omega, Below.refl _ _, fun j hj => absurd hj (Nat.not_lt_zero _)⟩
    case round =>
      obtain ⟨k, x, hk, rfl, rfl, hx0, hx1, hb, hs⟩ := hrel
      by_cases hkl : k < l.length
      · obtain ⟨b, off, rfl, hlo, hhi, hcc⟩ := hc (by omega)
        obtain ⟨c0, ⟨a2, cap2, c1, c4⟩, c2⟩ := hcc k hkl
        have c0 := cell_stays hb c0
        have c1 := cell_stays hb c1
        have c2 := cell_stays hb c2
        have c4 := c4.stays hb
        have hss := (hw k hkl).1
        have hsj := (hw k hkl).2.2
        change Hid _ at hsj
        clear hcc hc hw
        go_wp2_with (go_at_call 32; refine (szProc_any _ _ _ _ _ c4 hss hsj.out _ hx0 (by omega)).mono ?_; rintro e w1 ⟨q, rfl, hq, hl, hb1⟩; change Hid _ at hl)
        · go_ret
          exact ⟨_, rfl, by omega, by omega, hb.trans (hb1.mono hb.size)⟩
        · go_roundw
          case rel =>
            refine ⟨k + 1, _, by omega, by go_num, rfl, by omega, by omega, hb.trans (hb1.mono hb.size), fun j hj => ?_⟩
            by_cases e : j = k
            · subst e; exact hl.out (by omega)
            · exact hs.out j (by omega)
          case measure => simp [intOf]; omega
      · have hkk : k = l.length := by omega
        go_wp2
        go_ret
        exact ⟨_, rfl, by omega, fun _ => ⟨⟨by omega, fun i hi => (hs.out i (by omega)).2.1⟩, fun i hi => ⟨(hs.out i (by omega)).1, (hs.out i (by omega)).2.2⟩⟩, hb⟩

/-- What a set that the laws speak of keeps to. -/
def SmallS (l : List Nd) (p : List Pr) : Prop := (SmallN l ∧ ∀ i, i < l.length → (ndAt l i).s.size ≤ 1048576) ∧ SmallP p ∧ ∀ i, i < p.length → (prAt p i).name.size ≤ 1048576 ∧ ∀ j, j < (prAt p i).ps.length → (sAt (prAt p i).ps j).size ≤ 1048576

theorem szSet_any (v u : Value) (l : List Nd) (p : List Pr) (w : World) {lo hi : Nat} (h : SetAt lo hi w v u l p) (hw : WfN l) (hp : WfP p) (left : Int) (h0 : 0 ≤ left) (h1 : left ≤ 1048576) :
    Calls Try.prog 4 #[.agg #[v, u], .int .i64 left] w fun e w' => ∃ q, e = .returned (.int .i64 q) ∧ q ≤ left ∧ (0 ≤ q → SmallS l p) ∧ Below w.heap.size w w' := by
  obtain ⟨a, c, b, d, rfl, rfl⟩ := h.forms
  have hbx : Below w.heap.size w (w.alloc (Obj.cells #[Value.slice a l.length c, Value.slice b p.length d] 25)) := (Below.refl _ _).alloc (Nat.le_refl _) _
  go_enter Try.func4, Try.ntmps4
  go_wp2_with fail
  refine (szNodeS_any _ l _ (h.1.stays hbx) hw _ h0 h1).mono ?_
  rintro e w2 ⟨q, rfl, hq, hl, hb2⟩
  have hb3 := hbx.trans (hb2.mono (by simp))
  have p1 : w2.cell? ⟨w.heap.size, 1, none⟩ = some (.slice b p.length d) := cell_stays hb2 (by simp [go_sem])
  by_cases hlt : q < 0
  · go_wp2
    go_ret
    exact ⟨_, rfl, by omega, by omega, hb3⟩
  have hl' := hl (by omega)
  clear hl
  change Hid _ at hl'
  go_wp2_with fail
  refine (szProcS_any _ p _ (h.2.stays hb3) hp _ (by omega) (by omega)).mono ?_
  rintro e w4 ⟨q4, rfl, hq4, hl4, hb4⟩
  have hb5 := hb3.trans (hb4.mono hb3.size)
  change Hid _ at hl4
  by_cases hlt4 : q4 < 0
  · go_wp2
    go_ret
    exact ⟨_, rfl, by omega, by omega, hb5⟩
  · go_wp2
    go_ret
    exact ⟨_, rfl, by omega, fun _ => ⟨hl'.out, hl4.out (by omega)⟩, hb5⟩

end Go.Proofs.Ytjikmpdgednlaaa
