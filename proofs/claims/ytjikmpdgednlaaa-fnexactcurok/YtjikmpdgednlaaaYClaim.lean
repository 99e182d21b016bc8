/- The program's claim: a node is taken for an owner. -/
import Derived.Test.YtjikmpdgednlaaaXTree3
namespace Go.Proofs.Ytjikmpdgednlaaa
open Go.ChangeShapes Go.WideShapes Go.ChangeAt Go.RowKit
set_option linter.unusedVariables false
set_option maxRecDepth 100000
attribute [local go_sem ↓] Go.wp_at_zero Go.wp_at_succ

/-- Which of n nodes have an owner: those in L. -/
def of (L : List Int) : Nat → Value := fun x => .bool (decide ((x : Int) ∈ L))
theorem owned_more {w : World} {U n : Nat} {L : List Int} (h : RowOf w U 4 n (of L)) {x : Nat} (hx : x < n) : RowOf (w.setCell ⟨U, x, none⟩ (.bool true)) U 4 n (of (L ++ [(x : Int)])) :=
  (h.set x _).congr fun j hj => by
    by_cases e : j = x
    · subst e
      simp [of]
    · rw [if_neg e]
      have : ¬ (j : Int) = (x : Int) := by omega
      simp [of, this]

/-- Claiming node k of the first m. -/
theorem claim_no {w : World} {U n m cap : Nat} {L : List Int} (h : RowOf w U 4 n (of L)) (hm : m ≤ n) (k : Int) (hk : k < 0 ∨ (m : Int) ≤ k ∨ k ∈ L) :
    Calls Try.prog 76 #[.slice (some ⟨U, 0, none⟩) m cap, .int .i64 k] w fun e w' => e = .returned (.bool false) ∧ w' = w := by
  by_cases h1 : k < 0
  · go_enter Try.func76, Try.ntmps76
    go_wp2
    go_ret
    exact ⟨rfl, rfl⟩
  by_cases h2 : (m : Int) ≤ k
  · go_enter Try.func76, Try.ntmps76
    go_wp2
    go_ret
    exact ⟨rfl, rfl⟩
  obtain ⟨x, rfl⟩ := Int.eq_ofNat_of_zero_le (show 0 ≤ k by omega)
  have h3 : (x : Int) ∈ L := by
    rcases hk with hk | hk | hk
    · omega
    · omega
    · exact hk
  have c0 : w.cell? ⟨U, x, none⟩ = some (.bool true) := by rw [h.cell (show x < n by omega), of, decide_eq_true h3]
  have x0 : (0 : Int) ≤ (x : Int) := by omega
  have x1 : (x : Int) < (m : Int) := by omega
  have x2 : ¬ m ≤ x := by omega
  go_enter Try.func76, Try.ntmps76
  go_wp2
  go_ret
  exact ⟨rfl, rfl⟩
theorem claim_yes {w : World} {U n m cap : Nat} {L : List Int} (h : RowOf w U 4 n (of L)) (hm : m ≤ n) (x : Nat) (hx : x < m) (h3 : ¬ (x : Int) ∈ L) :
    Calls Try.prog 76 #[.slice (some ⟨U, 0, none⟩) m cap, .int .i64 (x : Int)] w fun e w' => e = .returned (.bool true) ∧ w' = w.setCell ⟨U, x, none⟩ (.bool true) := by
  have c0 : w.cell? ⟨U, x, none⟩ = some (.bool false) := by rw [h.cell (show x < n by omega), of, decide_eq_false h3]
  have f0 := h.frozen x
  have x0 : (0 : Int) ≤ (x : Int) := by omega
  have x1 : (x : Int) < (m : Int) := by omega
  have x2 : ¬ m ≤ x := by omega
  have x3 : ¬ (m : Int) ≤ (x : Int) := by omega
  go_enter Try.func76, Try.ntmps76
  go_wp2
  go_ret
  exact ⟨rfl, rfl⟩

end Go.Proofs.Ytjikmpdgednlaaa
