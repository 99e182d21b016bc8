/- Rows that a call owns; the same rows are the same. -/
import Derived.Test.YtgnfiakbcogdlakOwn
import Derived.Test.YtgnfiakbcogdlakRows0
namespace Go.Proofs.Ytgnfiakbcogdlak
open Go.ChangeShapes Go.WideShapes Go.ChangeAt Go.RowKit Go.Sort
set_option linter.unusedVariables false
set_option maxRecDepth 100000
attribute [local go_sem ↓] Go.wp_at_zero Go.wp_at_succ

theorem eqRow_same (t r v : Int) (w : World) :
    Calls Try.prog 63 #[.agg #[.int .i64 t, .int .i64 r, .int .i64 v], .agg #[.int .i64 t, .int .i64 r, .int .i64 v]] w fun e w' => e = .returned (.bool true) ∧ Below w.heap.size w w' := by
  have hbx : Below w.heap.size w ((w.alloc (Obj.cells #[.int .i64 t, .int .i64 r, .int .i64 v] 78)).alloc (Obj.cells #[.int .i64 t, .int .i64 r, .int .i64 v] 78)) := ((Below.refl _ _).alloc (Nat.le_refl _) _).alloc (by simp) _
  go_enter Try.func63, Try.ntmps63
  go_wp2_with (first | (go_at_call 54; refine (eqKey_same _ _ _).mono ?_; rintro e w1 ⟨rfl, hb1⟩; obtain ⟨hc1, hf1⟩ := bcell hb1))
  go_ret
  exact ⟨rfl, hbx.trans (hb1.mono hbx.size)⟩

theorem eqRowS_same (v v' : Value) (l : List Rw) (w : World) {b b' : Nat} (h : OwnR b w v l) (h' : OwnR b' w v' l) (hn : l.length ≤ 1048576) :
    Calls Try.prog 53 #[v, v'] w fun e w' => e = .returned (.bool true) ∧ Below w.heap.size w w' := by
  obtain ⟨a, cap, rfl, hc⟩ : ∃ a cap, v = .slice a l.length cap ∧ (0 < l.length → ∃ g f, a = some ⟨g, 0, none⟩ ∧ RowOf w g 78 (l.length * 3) f ∧ ∀ i, i < l.length → f (i * 3) = .int .i64 (rAt l i).t ∧ f (i * 3 + 1) = .int .i64 (rAt l i).r ∧ f (i * 3 + 2) = .int .i64 (rAt l i).v) := by
    rcases h with ⟨rfl, rfl⟩ | ⟨g, cap, f, rfl, _, h3, h4⟩
    · exact ⟨none, 0, rfl, fun h => absurd h (Nat.lt_irrefl _)⟩
    · exact ⟨_, _, rfl, fun _ => ⟨g, f, rfl, h3, h4⟩⟩
  obtain ⟨a', cap', rfl, hc'⟩ : ∃ a cap, v' = .slice a l.length cap ∧ (0 < l.length → ∃ g f, a = some ⟨g, 0, none⟩ ∧ RowOf w g 78 (l.length * 3) f ∧ ∀ i, i < l.length → f (i * 3) = .int .i64 (rAt l i).t ∧ f (i * 3 + 1) = .int .i64 (rAt l i).r ∧ f (i * 3 + 2) = .int .i64 (rAt l i).v) := by
    rcases h' with ⟨rfl, rfl⟩ | ⟨g, cap, f, rfl, _, h3, h4⟩
    · exact ⟨none, 0, rfl, fun h => absurd h (Nat.lt_irrefl _)⟩
    · exact ⟨_, _, rfl, fun _ => ⟨g, f, rfl, h3, h4⟩⟩
  go_enter Try.func53, Try.ntmps53
  go_wp2
  go_loopw [5] (fun i wr => ∃ k : Nat, k ≤ l.length ∧ i = .int .i64 k ∧ Below w.heap.size w wr) (fun i _ => l.length - (intOf i).toNat)
  case atStart => exact ⟨0, Nat.zero_le _, rfl, Below.refl _ _⟩
  case round =>
    obtain ⟨k, hk, rfl, hb⟩ := hrel
    by_cases hlt : k < l.length
    · obtain ⟨g, f, rfl, hr, hf⟩ := hc (by omega)
      obtain ⟨g', f', rfl, hr', hf'⟩ := hc' (by omega)
      obtain ⟨e0, e1, e2⟩ := hf k hlt
      obtain ⟨e0', e1', e2'⟩ := hf' k hlt
      have c0 := cell_stays hb (hr.cell (show k * 3 < l.length * 3 by omega))
      have c1 := cell_stays hb (hr.cell (show k * 3 + 1 < l.length * 3 by omega))
      have c2 := cell_stays hb (hr.cell (show k * 3 + 2 < l.length * 3 by omega))
      have d0 := cell_stays hb (hr'.cell (show k * 3 < l.length * 3 by omega))
      have d1 := cell_stays hb (hr'.cell (show k * 3 + 1 < l.length * 3 by omega))
      have d2 := cell_stays hb (hr'.cell (show k * 3 + 2 < l.length * 3 by omega))
      rw [e0] at c0; rw [e1] at c1; rw [e2] at c2; rw [e0'] at d0; rw [e1'] at d1; rw [e2'] at d2
      have i0 : (0 : Int) ≤ (k : Int) := by omega
      have i1 : (k : Int) < (l.length : Int) := by omega
      clear hc hc' hf hf' hr hr' e0 e1 e2 e0' e1' e2'
      go_wp2_with fail
      go_region_held3 (fun x => Below w.heap.size w x ∧ x.cell? ⟨g, k * 3, none⟩ = some (.int .i64 (rAt l k).t) ∧ x.cell? ⟨g, k * 3 + 1, none⟩ = some (.int .i64 (rAt l k).r) ∧ x.cell? ⟨g, k * 3 + 2, none⟩ = some (.int .i64 (rAt l k).v) ∧ x.cell? ⟨g', k * 3, none⟩ = some (.int .i64 (rAt l k).t) ∧ x.cell? ⟨g', k * 3 + 1, none⟩ = some (.int .i64 (rAt l k).r) ∧ x.cell? ⟨g', k * 3 + 2, none⟩ = some (.int .i64 (rAt l k).v))
        (first | exact six_kept (by assumption) hb1 | exact ⟨hb.drew, c0, c1, c2, d0, d1, d2⟩)
        (first | (go_at_call 63; refine (eqRow_same _ _ _ _).mono ?_; rintro e w1 ⟨rfl, hb1⟩))
      rename_i hH
      go_wp2
      go_roundw
      case rel => exact ⟨k + 1, by omega, by go_num, hH.1⟩
      case measure => simp [intOf]; omega
    · go_wp2
      go_ret
      exact ⟨rfl, hb⟩

end Go.Proofs.Ytgnfiakbcogdlak
