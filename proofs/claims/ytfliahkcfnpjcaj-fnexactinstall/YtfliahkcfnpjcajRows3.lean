/- Rows that are marked, in a block that is known. -/
import Derived.Test.YtfliahkcfnpjcajRows2
import Derived.Test.YtfliahkcfnpjcajMData
namespace Go.Proofs.Ytfliahkcfnpjcaj
open Go.ChangeShapes Go.WideShapes Go.ChangeAt Go.RowKit Go.Sort
set_option linter.unusedVariables false
set_option maxRecDepth 100000
attribute [local go_sem ↓] Go.wp_at_zero Go.wp_at_succ

theorem markRowS_at (B c : Nat) (l : List Rw) (k : Nat) (w : World) (h : OwnW w B l) (hn : l.length ≤ 1048576) (hk : k ≤ 4611686018427387904) :
    Calls Try.prog 21 #[.slice (some ⟨B, 0, none⟩) l.length c, .int .i64 k] w fun e w' => e = .returned (.int .i64 ((k + 3 * l.length : Nat) : Int)) ∧ Wrote (fun b => b = B) w w' := by
  obtain ⟨g, hr, _⟩ := h
  generalize l.length = m at hr hn ⊢
  go_enter Try.func21, Try.ntmps21
  go_wp2
  go_loopw [1, 5] (fun x i wr => ∃ (q : Nat) (g' : Nat → Value), q ≤ m ∧ i = .int .i64 q ∧ x = .int .i64 ((k + 3 * q : Nat) : Int) ∧ Wrote (fun b => b = B) w wr ∧ RowOf wr B 79 (m * 3) g' ∧ ∀ j, j < 3 * q → g' j = .int .i64 ((k + j : Nat) : Int)) (fun _ i _ => m - (intOf i).toNat)
  case atStart => exact ⟨0, g, Nat.zero_le _, rfl, rfl, Wrote.refl _ _, hr, fun j hj => absurd hj (by omega)⟩
  case round =>
    obtain ⟨q, g', hq, rfl, rfl, hw, hrow, hg⟩ := hrel
    by_cases hlt : q < m
    · have z0 := hrow.cell (show q * 3 < m * 3 by omega)
      have z1 := hrow.frozen (q * 3)
      have z2 := hrow.cell (show q * 3 + 1 < m * 3 by omega)
      have z3 := hrow.frozen (q * 3 + 1)
      have z4 := hrow.cell (show q * 3 + 2 < m * 3 by omega)
      have z5 := hrow.frozen (q * 3 + 2)
      go_wp2
      go_roundw
      case rel =>
        refine ⟨q + 1, _, by omega, by go_num, ?_, ((hw.setCell rfl _).setCell rfl _).setCell rfl _, ((hrow.set _ _).set _ _).set _ _, fun j hj => ?_⟩
        · congr 1
        · by_cases e2 : j = q * 3 + 2
          · subst e2; simp; omega
          · by_cases e1 : j = q * 3 + 1
            · subst e1; simp; omega
            · by_cases e0 : j = q * 3
              · subst e0; simp; omega
              · simp only [if_neg e2, if_neg e1, if_neg e0]; exact hg j (by omega)
      case measure => simp [intOf]; omega
    · have hqm : q = m := by omega
      subst hqm
      go_wp2
      go_ret
      exact ⟨rfl, hw⟩

end Go.Proofs.Ytfliahkcfnpjcaj
