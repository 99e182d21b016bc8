/- Rows that bear marks: markRowS, heldRowS. -/
import Derived.Test.YtgnfiakbcogdlaoR0
namespace Go.Proofs.Ytgnfiakbcogdlao
open Go.ChangeShapes Go.WideShapes Go.ChangeAt Go.RowKit Go.Sort Go.Deep Go.Joins
set_option linter.unusedVariables false
set_option maxRecDepth 100000
attribute [local go_sem ↓] Go.wp_at_zero Go.wp_at_succ

/-- Only blocks of p may have been written; none is new. -/
structure Wrote (p : Nat → Prop) (w w' : World) : Prop where
  os : w'.os = w.os
  tape : w'.tape = w.tape
  output : w'.output = w.output
  size : w'.heap.size = w.heap.size
  block : ∀ k, ¬ p k → w'.heap[k]? = w.heap[k]?

theorem Wrote.refl (p : Nat → Prop) (w : World) : Wrote p w w := ⟨rfl, rfl, rfl, rfl, fun _ _ => rfl⟩

theorem Wrote.trans {p : Nat → Prop} {a b c : World} (h : Wrote p a b) (k : Wrote p b c) : Wrote p a c :=
  ⟨k.os.trans h.os, k.tape.trans h.tape, k.output.trans h.output, k.size.trans h.size, fun i hi => (k.block i hi).trans (h.block i hi)⟩

theorem Wrote.setCell {p : Nat → Prop} {a w : World} (h : Wrote p a w) {x : Addr} (hx : p x.block) (u : Value) : Wrote p a (w.setCell x u) :=
  h.trans ⟨rfl, rfl, rfl, by simp [World.setCell], fun k hk => Below.heap_setCell _ _ _ _ (fun e => hk (e ▸ hx))⟩

theorem Wrote.imp {p q : Nat → Prop} {a w : World} (h : Wrote p a w) (hpq : ∀ k, p k → q k) : Wrote q a w :=
  ⟨h.os, h.tape, h.output, h.size, fun k hk => h.block k (fun hp => hk (hpq k hp))⟩

theorem Wrote.below {p : Nat → Prop} {a w : World} {B : Nat} (h : Wrote p a w) (hp : ∀ k, p k → B ≤ k) : Below B a w :=
  ⟨h.os, h.tape, h.output, by rw [h.size]; exact Nat.le_refl _, fun k hk => h.block k (fun h' => by have := hp k h'; omega)⟩

/-- Rows that bear the marks from k on. -/
def MarkedR (w : World) (v : Value) (n k : Nat) : Prop := (v = .slice none 0 0 ∧ n = 0) ∨ ∃ g cap, v = .slice (some ⟨g, 0, none⟩) n cap ∧ RowOf w g 74 (n * 3) (fun j => .int .i64 ((k + j : Nat) : Int))

theorem MarkedR.keep {base : Nat} {w w' : World} {v : Value} {n k : Nat} (h : MarkedR w v n k) (hb : Below w.heap.size w w') : MarkedR w' v n k := by
  rcases h with h | ⟨g, cap, h1, h2⟩
  · exact .inl h
  · exact .inr ⟨g, cap, h1, h2.of_block (hb.block _ h2.lt)⟩

theorem markRowS_any (v : Value) (l : List Rw) (k : Nat) (w : World) {base : Nat} (h : OwnR base w v l) (hn : l.length ≤ 1048580) (hk : k ≤ 4611686018427387904) :
    Calls Try.prog 14 #[v, .int .i64 k] w fun e w' => e = .returned (.int .i64 ((k + 3 * l.length : Nat) : Int)) ∧ Wrote (fun b => base ≤ b) w w' ∧ MarkedR w' v l.length k := by
  rcases h with ⟨rfl, rfl⟩ | ⟨B, c, g, rfl, hbase, hr, _⟩
  · go_enter Try.func14, Try.ntmps14
    go_wp2
    refine wp_loop_rounds 1 ?_
    rw [rounds_succ]
    go_wp2
    go_ret
    exact ⟨rfl, Wrote.refl _ _, .inl ⟨rfl, rfl⟩⟩
  · generalize l.length = m at hr hn ⊢
    go_enter Try.func14, Try.ntmps14
    go_wp2
    go_loopw [1, 5] (fun x i wr => ∃ (q : Nat) (g' : Nat → Value), q ≤ m ∧ i = .int .i64 q ∧ x = .int .i64 ((k + 3 * q : Nat) : Int) ∧ Wrote (fun b => base ≤ b) w wr ∧ RowOf wr B 74 (m * 3) g' ∧ ∀ j, j < 3 * q → g' j = .int .i64 ((k + j : Nat) : Int)) (fun _ i _ => m - (intOf i).toNat)
    case atStart => exact ⟨0, g, Nat.zero_le _, rfl, rfl, Wrote.refl _ _, hr, fun j hj => absurd hj (by omega)⟩
    case round =>
      obtain ⟨q, g', hq, rfl, rfl, hw, hrow, hg⟩ := hrel
      by_cases hlt : q < m
      · have z0 := hrow.cell (show q * 3 < m * 3 by omega)
        have z1 := hrow.frozen (q * 3)
        have z2 := hrow.cell (show q * 3 + 1 < m * 3 by omega)
        have z3 := hrow.frozen (q * 3 + 1)
        have z4 := hrow.cell (show q * 3 + 2 < m * 3 by omega)
        have z5 := hrow.frozen (q * 3 + 2)
        go_wp2
        go_roundw
        case rel =>
          refine ⟨q + 1, _, by omega, by go_num, ?_, ((hw.setCell hbase _).setCell hbase _).setCell hbase _, ((hrow.set _ _).set _ _).set _ _, fun j hj => ?_⟩
          · congr 1
          · by_cases e2 : j = q * 3 + 2
            · subst e2; simp; omega
            · by_cases e1 : j = q * 3 + 1
              · subst e1; simp; omega
              · by_cases e0 : j = q * 3
                · subst e0; simp; omega
                · simp only [if_neg e2, if_neg e1, if_neg e0]; exact hg j (by omega)
        case measure => simp [intOf]; omega
      · have hqm : q = m := by omega
        subst hqm
        go_wp2
        go_ret
        exact ⟨rfl, hw, .inr ⟨B, c, rfl, hrow.congr fun j hj => hg j (by omega)⟩⟩

theorem heldRowS_any (v : Value) (n : Nat) (k : Nat) (w : World) (h : MarkedR w v n k) (hn : n ≤ 1048580) (hk : k ≤ 4611686018427387904) :
    Calls Try.prog 15 #[v, .int .i64 k] w fun e w' => e = .returned (.int .i64 ((k + 3 * n : Nat) : Int)) ∧ w' = w := by
  rcases h with ⟨rfl, rfl⟩ | ⟨B, c, rfl, hr⟩
  · go_enter Try.func15, Try.ntmps15
    go_wp2
    refine wp_loop_rounds 1 ?_
    rw [rounds_succ]
    go_wp2
    go_ret
    exact ⟨rfl, rfl⟩
  · go_enter Try.func15, Try.ntmps15
    go_wp2
    go_loop [1, 5] (fun x i => ∃ q : Nat, q ≤ n ∧ i = .int .i64 q ∧ x = .int .i64 ((k + 3 * q : Nat) : Int)) (fun _ i => n - (intOf i).toNat)
    case atStart => exact ⟨0, Nat.zero_le _, rfl, rfl⟩
    case round =>
      obtain ⟨q, hq, rfl, rfl⟩ := hrel
      by_cases hlt : q < n
      · have z0 : w.cell? ⟨B, q * 3, none⟩ = some (.int .i64 (↑k + 3 * ↑q)) := by rw [hr.cell (by omega)]; simp; omega
        have z1 : w.cell? ⟨B, q * 3 + 1, none⟩ = some (.int .i64 (↑k + 3 * ↑q + 1)) := by rw [hr.cell (by omega)]; simp; omega
        have z2 : w.cell? ⟨B, q * 3 + 2, none⟩ = some (.int .i64 (↑k + 3 * ↑q + 1 + 1)) := by rw [hr.cell (by omega)]; simp; omega
        go_wp2
        go_round
        case rel => exact ⟨q + 1, by omega, by go_num, by go_num⟩
        case measure => simp [intOf]; omega
      · have hqm : q = n := by omega
        subst hqm
        go_wp2
        go_ret
        exact ⟨rfl, rfl⟩

theorem markRowS_at (B c : Nat) (l : List Rw) (k : Nat) (w : World) (h : OwnW w B l) (hn : l.length ≤ 1048580) (hk : k ≤ 4611686018427387904) :
    Calls Try.prog 14 #[.slice (some ⟨B, 0, none⟩) l.length c, .int .i64 k] w fun e w' => e = .returned (.int .i64 ((k + 3 * l.length : Nat) : Int)) ∧ Wrote (fun b => b = B) w w' := by
  obtain ⟨g, hr, _⟩ := h
  generalize l.length = m at hr hn ⊢
  go_enter Try.func14, Try.ntmps14
  go_wp2
  go_loopw [1, 5] (fun x i wr => ∃ (q : Nat) (g' : Nat → Value), q ≤ m ∧ i = .int .i64 q ∧ x = .int .i64 ((k + 3 * q : Nat) : Int) ∧ Wrote (fun b => b = B) w wr ∧ RowOf wr B 74 (m * 3) g' ∧ ∀ j, j < 3 * q → g' j = .int .i64 ((k + j : Nat) : Int)) (fun _ i _ => m - (intOf i).toNat)
  case atStart => exact ⟨0, g, Nat.zero_le _, rfl, rfl, Wrote.refl _ _, hr, fun j hj => absurd hj (by omega)⟩
  case round =>
    obtain ⟨q, g', hq, rfl, rfl, hw, hrow, hg⟩ := hrel
    by_cases hlt : q < m
    · have z0 := hrow.cell (show q * 3 < m * 3 by omega)
      have z1 := hrow.frozen (q * 3)
      have z2 := hrow.cell (show q * 3 + 1 < m * 3 by omega)
      have z3 := hrow.frozen (q * 3 + 1)
      have z4 := hrow.cell (show q * 3 + 2 < m * 3 by omega)
      have z5 := hrow.frozen (q * 3 + 2)
      go_wp2
      go_roundw
      case rel =>
        refine ⟨q + 1, _, by omega, by go_num, ?_, ((hw.setCell rfl _).setCell rfl _).setCell rfl _, ((hrow.set _ _).set _ _).set _ _, fun j hj => ?_⟩
        · congr 1
        · by_cases e2 : j = q * 3 + 2
          · subst e2; simp; omega
          · by_cases e1 : j = q * 3 + 1
            · subst e1; simp; omega
            · by_cases e0 : j = q * 3
              · subst e0; simp; omega
              · simp only [if_neg e2, if_neg e1, if_neg e0]; exact hg j (by omega)
      case measure => simp [intOf]; omega
    · have hqm : q = m := by omega
      subst hqm
      go_wp2
      go_ret
      exact ⟨rfl, hw⟩

end Go.Proofs.Ytgnfiakbcogdlao
