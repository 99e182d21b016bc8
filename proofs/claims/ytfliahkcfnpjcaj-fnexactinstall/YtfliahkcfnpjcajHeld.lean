/- heldVerS, heldChainS, heldStore: the marks stand; and the same of a store with no chain. -/
import Derived.Test.YtfliahkcfnpjcajRows2
namespace Go.Proofs.Ytfliahkcfnpjcaj
open Go.ChangeShapes Go.WideShapes Go.ChangeAt Go.RowKit Go.Sort
set_option linter.unusedVariables false
set_option maxRecDepth 100000
attribute [local go_sem ↓] Go.wp_at_zero Go.wp_at_succ

theorem heldVerS_any (B m c : Nat) (g : Nat → Value) (x : Int) (k : Nat) (hx : x = (k : Int)) (w : World) (hr : RowOf w B 72 (m * 2) g) (hg : ∀ j, j < m * 2 → g j = .int .i64 ((k + j : Nat) : Int)) (hm : m ≤ 1048576) (hk : k ≤ 4611686018427387904) :
    Calls Try.prog 87 #[.slice (some ⟨B, 0, none⟩) m c, .int .i64 x] w fun e w' => e = .returned (.int .i64 ((k + 2 * m : Nat) : Int)) ∧ w' = w := by
  subst hx
  go_enter Try.func87, Try.ntmps87
  go_wp2
  go_loop [1, 5] (fun x i => ∃ q : Nat, q ≤ m ∧ i = .int .i64 q ∧ x = .int .i64 ((k + 2 * q : Nat) : Int)) (fun _ i => m - (intOf i).toNat)
  case atStart => exact ⟨0, Nat.zero_le _, rfl, rfl⟩
  case round =>
    obtain ⟨q, hq, rfl, rfl⟩ := hrel
    by_cases hlt : q < m
    · have z0 : w.cell? ⟨B, q * 2, none⟩ = some (.int .i64 (↑k + 2 * ↑q)) := by rw [hr.cell (by omega), hg _ (by omega)]; simp; omega
      have z1 : w.cell? ⟨B, q * 2 + 1, none⟩ = some (.int .i64 (↑k + 2 * ↑q + 1)) := by rw [hr.cell (by omega), hg _ (by omega)]; simp; omega
      clear hg
      go_wp2
      go_round
      case rel => exact ⟨q + 1, by omega, by go_num, by go_num⟩
      case measure => simp [intOf]; omega
    · have hqm : q = m := by omega
      subst hqm
      clear hg
      go_wp2
      go_ret
      exact ⟨rfl, rfl⟩

theorem heldChainS_any (b : Nat) (Bs : Nat → Nat) (l : List Ch) (c : Nat) (k : Nat) (w : World) {lo hi : Nat} (h : MarkedC lo hi w b Bs l k l.length) (hn : Small l) (hk : k ≤ 1000) :
    Calls Try.prog 59 #[.slice (some ⟨b, 0, none⟩) l.length c, .int .i64 k] w fun e w' => e = .returned (.int .i64 ((k + mk l l.length : Nat) : Int)) ∧ w' = w := by
  obtain ⟨f, h3, h4⟩ := h
  have hn1 := hn.1
  go_enter Try.func59, Try.ntmps59
  go_wp2
  go_loop [1, 5] (fun x i => ∃ (q : Nat), q ≤ l.length ∧ i = .int .i64 q ∧ x = .int .i64 ((k + mk l q : Nat) : Int)) (fun _ i => l.length - (intOf i).toNat)
  case atStart => exact ⟨0, Nat.zero_le _, rfl, rfl⟩
  case round =>
    obtain ⟨q, hq, rfl, rfl⟩ := hrel
    have hb := mk_bound hn hq
    by_cases hlt : q < l.length
    · obtain ⟨⟨cq, eq⟩, gq, hrq, hm⟩ := h4 q hlt
      obtain ⟨m1, m2, m3⟩ := hm hlt
      have z0 : w.cell? ⟨b, q * 3, none⟩ = some (.int .i64 (↑k + ↑(mk l q))) := by rw [h3.cell (by omega), m1]; simp
      have z1 : w.cell? ⟨b, q * 3 + 1, none⟩ = some (.int .i64 (↑k + ↑(mk l q) + 1)) := by rw [h3.cell (by omega), m2]; simp
      have z2 := h3.cell (show q * 3 + 2 < l.length * 3 by omega)
      rw [eq] at z2
      have hnq := hn.2 q hlt
      clear h4 hm m1 m2 eq
      go_wp2_with (go_at_call 87; refine (heldVerS_any _ _ _ gq _ (k + mk l q + 2) (by omega) _ hrq m3 hnq (by omega)).mono ?_; rintro e w1 ⟨rfl, rfl⟩)
      go_round
      case rel => exact ⟨q + 1, by omega, by go_num, by congr 1; simp only [mk]; omega⟩
      case measure => simp [intOf]; omega
    · have hqm : q = l.length := by omega
      subst hqm
      clear h4
      go_wp2
      go_ret
      exact ⟨rfl, rfl⟩

theorem heldStore_any (b : Nat) (Bs : Nat → Nat) (l : List Ch) (c : Nat) (k : Nat) (w : World) {lo hi : Nat} (h : ∀ o, MarkedC lo hi (w.alloc o) b Bs l k l.length) (hn : Small l) (hk : k ≤ 1000) :
    Calls Try.prog 22 #[.agg #[.slice (some ⟨b, 0, none⟩) l.length c], .int .i64 k] w fun e w' => e = .returned (.int .i64 ((k + mk l l.length : Nat) : Int)) ∧ Below w.heap.size w w' := by
  have hb := mk_bound hn (Nat.le_refl _)
  go_enter Try.func22, Try.ntmps22
  go_wp2_with (go_at_call 59; refine (heldChainS_any b Bs l c k _ (h _) hn hk).mono ?_; rintro e w1 ⟨rfl, rfl⟩)
  go_ret
  exact ⟨rfl, (Below.refl _ _).alloc (Nat.le_refl _) _⟩

theorem markChainS_nil (k : Nat) (w : World) : Calls Try.prog 58 #[.slice none 0 0, .int .i64 k] w fun e w' => e = .returned (.int .i64 (k : Int)) ∧ w' = w := by
  go_enter Try.func58, Try.ntmps58
  go_wp2
  refine wp_loop_rounds 1 ?_
  rw [rounds_succ]
  go_wp2
  go_ret
  exact ⟨rfl, rfl⟩
theorem heldChainS_nil (k : Nat) (w : World) : Calls Try.prog 59 #[.slice none 0 0, .int .i64 k] w fun e w' => e = .returned (.int .i64 (k : Int)) ∧ w' = w := by
  go_enter Try.func59, Try.ntmps59
  go_wp2
  refine wp_loop_rounds 1 ?_
  rw [rounds_succ]
  go_wp2
  go_ret
  exact ⟨rfl, rfl⟩
theorem markStore_nil (k : Nat) (w : World) : Calls Try.prog 20 #[.agg #[.slice none 0 0], .int .i64 k] w fun e w' => e = .returned (.int .i64 (k : Int)) ∧ Below w.heap.size w w' := by
  go_enter Try.func20, Try.ntmps20
  go_wp2_with (go_at_call 58; refine (markChainS_nil k _).mono ?_; rintro e w1 ⟨rfl, rfl⟩)
  go_ret
  exact ⟨rfl, (Below.refl _ _).alloc (Nat.le_refl _) _⟩
theorem heldStore_nil (k : Nat) (w : World) : Calls Try.prog 22 #[.agg #[.slice none 0 0], .int .i64 k] w fun e w' => e = .returned (.int .i64 (k : Int)) ∧ Below w.heap.size w w' := by
  have hk0 : ¬ (k : Int) < 0 := by omega
  go_enter Try.func22, Try.ntmps22
  go_wp2_with (go_at_call 59; refine (heldChainS_nil k _).mono ?_; rintro e w1 ⟨rfl, rfl⟩)
  go_ret
  exact ⟨rfl, (Below.refl _ _).alloc (Nat.le_refl _) _⟩

end Go.Proofs.Ytfliahkcfnpjcaj
