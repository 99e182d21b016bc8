/- Which transaction is meant: spec.l2tx and impl.underWay. -/
import Derived.Test.YtgnfiakbcogdlakMOk3
namespace Go.Proofs.Ytgnfiakbcogdlak
open Go.ChangeShapes Go.WideShapes Go.ChangeAt Go.RowKit Go.Sort
set_option linter.unusedVariables false
set_option maxRecDepth 100000
attribute [local go_sem ↓] Go.wp_at_zero Go.wp_at_succ

/-- The i-th transaction is the first one of that number. -/
def IsTx (m : Md) (tx : Int) (i : Nat) : Prop := i < m.x.length ∧ (tAt m.x i).i = tx ∧ ∀ j, j < i → (tAt m.x j).i ≠ tx
def NoTx (m : Md) (tx : Int) : Prop := ∀ i, i < m.x.length → (tAt m.x i).i ≠ tx
theorem IsTx.one {m : Md} {tx : Int} {i j : Nat} (hi : IsTx m tx i) (hj : IsTx m tx j) : i = j := by
  rcases Nat.lt_trichotomy i j with h | h | h
  · exact absurd hi.2.1 (hj.2.2 i h)
  · exact h
  · exact absurd hj.2.1 (hi.2.2 j h)
theorem tx_either (m : Md) (tx : Int) : NoTx m tx ∨ ∃ i, IsTx m tx i := by
  have key : ∀ n, n ≤ m.x.length → (∀ j, j < n → (tAt m.x j).i ≠ tx) ∨ ∃ i, IsTx m tx i := fun n => by
    induction n with
    | zero => exact fun _ => .inl fun j hj => absurd hj (Nat.not_lt_zero _)
    | succ n ih =>
      intro hn
      rcases ih (by omega) with h | h
      · by_cases e : (tAt m.x n).i = tx
        · exact .inr ⟨n, by omega, e, h⟩
        · refine .inl fun j hj => ?_
          by_cases e' : j = n
          · exact e' ▸ e
          · exact h j (by omega)
      · exact .inr h
  exact key _ (Nat.le_refl _)

theorem l2tx_any (b : Nat) (vs vt ve : Value) (m : Md) (tx : Int) (w : World) {lo hi : Nat} (hbox : MBox w b vs m.c m.n vt ve) (h : TxsAt lo hi w vt m.x) :
    Calls Try.prog 13 #[.pointer (some ⟨b, 0, none⟩), .int .i64 tx] w fun e w' => (∃ x, e = .returned (.int .i64 x) ∧ ((x = -1 ∧ NoTx m tx) ∨ ∃ i : Nat, x = i ∧ IsTx m tx i)) ∧ w' = w := by
  obtain ⟨a, cap, rfl, hm, hc⟩ := h
  unfold maxLen at hm
  obtain ⟨q0, q1, q2, q3, q4⟩ := hbox
  go_enter Try.func13, Try.ntmps13
  go_wp2
  go_loop [5] (fun i => ∃ k : Nat, k ≤ m.x.length ∧ i = .int .i64 k ∧ ∀ j, j < k → (tAt m.x j).i ≠ tx) (fun i => m.x.length - (intOf i).toNat)
  case atStart => exact ⟨0, Nat.zero_le _, rfl, fun j hj => absurd hj (Nat.not_lt_zero _)⟩
  case round =>
    obtain ⟨k, hk, rfl, hs⟩ := hrel
    by_cases hlt : k < m.x.length
    · obtain ⟨bt, off, rfl, _, _, hcc⟩ := hc (by omega)
      have c0 := (hcc k hlt).1
      clear hcc hc
      by_cases he : (tAt m.x k).i = tx
      · have he' : ((tAt m.x k).i == tx) = true := by simp [he]
        have HE : Hid ((tAt m.x k).i = tx) := he
        clear he
        go_wp2
        go_ret
        exact ⟨⟨_, rfl, .inr ⟨k, rfl, hlt, HE.out, hs⟩⟩, rfl⟩
      · have he' : ((tAt m.x k).i == tx) = false := by rw [beq_eq_false_iff_ne]; exact he
        have hn := upto_succ hs he
        clear he hs
        go_wp2
        go_round
        case rel => exact ⟨k + 1, by omega, by go_num, hn⟩
        case measure => simp [intOf]; omega
    · clear hc
      go_wp2
      go_ret
      exact ⟨⟨_, rfl, .inl ⟨rfl, fun i hi => hs i (by omega)⟩⟩, rfl⟩

/-- What underWay answers. -/
def UAns (m : Md) (tx : Int) (a : Option Addr) (e : Ending) : Prop :=
  (mgrOk m ∧ ∃ i bt off, IsTx m tx i ∧ a = some ⟨bt, off, none⟩ ∧ e = .returned (.tuple #[.pointer (some ⟨bt, off + i * 3, none⟩), .nilIface])) ∨
  ((¬ mgrOk m ∨ NoTx m tx) ∧ e = .returned (.tuple #[.pointer none, .iface 88 (.agg #[.int .i64 1])]))

set_option maxHeartbeats 1000000 in
theorem underWay_any (b : Nat) (vs : Value) (a : Option Addr) (cap : Nat) (ve : Value) (m : Md) (tx : Int) (w : World) {lo hi : Nat} (hbox : MBox w b vs m.c m.n (.slice a m.x.length cap) ve) (h : MAt lo hi w vs (.slice a m.x.length cap) ve m) :
    Calls Try.prog 18 #[.pointer (some ⟨b, 0, none⟩), .int .i64 tx] w fun e w' => UAns m tx a e ∧ Below w.heap.size w w' := by
  obtain ⟨q0, q1, q2, q3, q4⟩ := id hbox
  go_enter Try.func18, Try.ntmps18
  by_cases ho : mgrOk m
  · go_wp2_with (go_at_call 32; refine (implMgrOk_any _ _ _ m _ h).mono ?_; rintro e w1 ⟨⟨q, rfl, hq⟩, hb1⟩; obtain rfl := hq.2 ho; clear hq; obtain ⟨r0, r1, r2, r3, r4⟩ := hbox.stays hb1)
    obtain ⟨a', cap', e', hm, hc⟩ := h.x.stays hb1
    injection e' with e1 e2 e3
    subst e1 e3
    unfold maxLen at hm
    clear e2 q0 q1 q2 q3 q4
    go_loop [6, 19] (fun y i => ∃ k : Nat, k ≤ m.x.length ∧ i = .int .i64 k ∧ ∀ j, j < k → (tAt m.x j).i ≠ tx) (fun _ i => m.x.length - (intOf i).toNat)
    case atStart => exact ⟨0, Nat.zero_le _, rfl, fun j hj => absurd hj (Nat.not_lt_zero _)⟩
    case round =>
      obtain ⟨k, hk, rfl, hs⟩ := hrel
      by_cases hlt : k < m.x.length
      · obtain ⟨bt, off, rfl, _, _, hcc⟩ := hc (by omega)
        have c0 := (hcc k hlt).1
        clear hcc hc
        by_cases he : (tAt m.x k).i = tx
        · have he' : ((tAt m.x k).i == tx) = true := by simp [he]
          have HE : Hid ((tAt m.x k).i = tx) := he
          clear he
          go_wp2
          go_ret2
          exact ⟨.inl ⟨ho, k, bt, off, ⟨hlt, HE.out, hs⟩, rfl, rfl⟩, hb1⟩
        · have he' : ((tAt m.x k).i == tx) = false := by rw [beq_eq_false_iff_ne]; exact he
          have hn := upto_succ hs he
          clear he hs
          go_wp2
          go_round
          case rel => exact ⟨k + 1, by omega, by go_num, hn⟩
          case measure => simp [intOf]; omega
      · clear hc
        go_wp2
        go_ret2
        exact ⟨.inr ⟨.inr fun i hi => hs i (by omega), rfl⟩, hb1⟩
  · go_wp2_with (go_at_call 32; refine (implMgrOk_any _ _ _ m _ h).mono ?_; rintro e w1 ⟨⟨q, rfl, hq⟩, hb1⟩; obtain rfl := says_false hq ho; clear hq)
    go_ret2
    exact ⟨.inr ⟨.inl ho, rfl⟩, hb1⟩

end Go.Proofs.Ytgnfiakbcogdlak
