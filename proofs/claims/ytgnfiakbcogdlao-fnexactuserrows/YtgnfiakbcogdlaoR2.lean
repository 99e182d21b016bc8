/- The program's RowsOk. -/
import Derived.Test.YtgnfiakbcogdlaoR1
namespace Go.Proofs.Ytgnfiakbcogdlao
open Go.ChangeShapes Go.WideShapes Go.ChangeAt Go.RowKit Go.Sort Go.Deep Go.Joins
set_option linter.unusedVariables false
set_option maxRecDepth 100000
attribute [local go_sem ↓] Go.wp_at_zero Go.wp_at_succ

theorem isZero_any (t r v : Int) (w : World) :
    Calls Try.prog 73 #[.agg #[.int .i64 t, .int .i64 r, .int .i64 v]] w fun e w' => e = .returned (.bool (v == 0)) ∧ Below w.heap.size w w' := by
  go_enter Try.func73, Try.ntmps73
  go_wp2
  go_ret
  exact ⟨rfl, (Below.refl _ _).alloc (Nat.le_refl _) _⟩

/-- The place of the first row of value 0, or -1. -/
def isIdx0 (l : List Rw) (x : Int) : Prop := (x = -1 ∧ noZero l) ∨ (0 ≤ x ∧ ¬ noZero l)

theorem indexZero_any (v : Value) (l : List Rw) (w : World) {lo hi : Nat} (h : RowsAt lo hi w v l) :
    Calls Try.prog 98 #[v, .func (.func 73) #[] #[]] w fun e w' => ∃ x : Int, e = .returned (.int .i64 x) ∧ isIdx0 l x ∧ Below w.heap.size w w' := by
  obtain ⟨a, cap, rfl, hm, hc⟩ := h
  unfold maxLen at hm
  go_enter Try.func98, Try.ntmps98
  go_wp2
  go_loopw [8] (fun i wr => ∃ k : Nat, k ≤ l.length ∧ i = .int .i64 k ∧ Below w.heap.size w wr ∧ ∀ j, j < k → (rAt l j).v ≠ 0) (fun i _ => l.length - (intOf i).toNat)
  case atStart => exact ⟨0, Nat.zero_le _, rfl, Below.refl _ _, fun j hj => absurd hj (Nat.not_lt_zero _)⟩
  case round =>
    rename World => wo
    obtain ⟨k, hk, rfl, hb, hs⟩ := hrel
    by_cases hlt : k < l.length
    · obtain ⟨b, off, rfl, hlo, hhi, hcc⟩ := hc (by omega)
      obtain ⟨c0, c1, c2⟩ := hcc k hlt
      replace c0 := cell_stays hb c0
      replace c1 := cell_stays hb c1
      replace c2 := cell_stays hb c2
      have i0 : (0 : Int) ≤ (k : Int) := by omega
      have i1 : (k : Int) < (l.length : Int) := by omega
      clear hc hcc
      go_wp2_with fail
      refine (isZero_any _ _ _ _).mono ?_
      rintro e w1 ⟨rfl, hb1⟩
      have hB := hb.trans (hb1.mono hb.size)
      by_cases hz : (rAt l k).v = 0
      · have hz' : ((rAt l k).v == 0) = true := by simpa using hz
        go_wp2
        go_ret
        exact ⟨_, rfl, .inr ⟨i0, fun h => h k hlt hz⟩, hB⟩
      · have hz' : ((rAt l k).v == 0) = false := by simpa using hz
        go_wp2
        go_roundw
        case rel => exact ⟨k + 1, by omega, by go_num, hB, upto_succ hs hz⟩
        case measure => simp [intOf]; omega
    · go_wp2
      go_ret
      exact ⟨_, rfl, .inl ⟨rfl, fun j hj => hs j (by omega)⟩, hb⟩

theorem containsZero_any (v : Value) (l : List Rw) (w : World) {lo hi : Nat} (h : RowsAt lo hi w v l) :
    Calls Try.prog 72 #[v, .func (.func 73) #[] #[]] w fun e w' => Says e (¬ noZero l) ∧ Below w.heap.size w w' := by
  obtain ⟨a, cap, hv⟩ : ∃ a cap, v = .slice a l.length cap := by obtain ⟨a, cap, h1, _⟩ := h; exact ⟨a, cap, h1⟩
  subst hv
  go_enter Try.func72, Try.ntmps72
  go_wp2_with fail
  refine (indexZero_any _ l _ h).mono ?_
  rintro e w1 ⟨x, rfl, hx, hb⟩
  by_cases h0 : 0 ≤ x
  · go_wp2
    go_ret
    refine ⟨says_yes ?_, hb⟩
    rcases hx with ⟨h1, _⟩ | ⟨_, h2⟩
    · omega
    · exact h2
  · have h0' : decide (0 ≤ x) = false := by simpa using h0
    go_wp2
    go_ret
    refine ⟨says_no ?_, hb⟩
    rcases hx with ⟨_, h1⟩ | ⟨h2, _⟩
    · exact fun hh => hh h1
    · omega

theorem implRowsOk_any (v : Value) (l : List Rw) (w : World) {lo hi : Nat} (h : RowsAt lo hi w v l) :
    Calls Try.prog 40 #[v] w fun e w' => Says e (rowsOk' l) ∧ Below w.heap.size w w' := by
  obtain ⟨a, cap, hv⟩ : ∃ a cap, v = .slice a l.length cap := by obtain ⟨a, cap, h1, _⟩ := h; exact ⟨a, cap, h1⟩
  subst hv
  go_enter Try.func40, Try.ntmps40
  go_wp2_with fail
  refine (keysOk_any _ l _ h).mono ?_
  rintro e w1 ⟨⟨q, rfl, hq⟩, hb⟩
  by_cases hk : keysUp l
  · obtain rfl : q = true := hq.2 hk
    clear hq
    go_wp2_with fail
    refine (containsZero_any _ l _ (h.stays hb)).mono ?_
    rintro e w2 ⟨⟨q2, rfl, hq2⟩, hb2⟩
    by_cases hz : noZero l
    · obtain rfl : q2 = false := says_false hq2 fun hh => hh hz
      clear hq2
      go_wp2
      go_ret
      exact ⟨says_yes ⟨hk, hz⟩, hb.trans (hb2.mono hb.size)⟩
    · obtain rfl : q2 = true := hq2.2 hz
      clear hq2
      go_wp2
      go_ret
      exact ⟨says_no fun hh => hz hh.2, hb.trans (hb2.mono hb.size)⟩
  · obtain rfl : q = false := says_false hq hk
    clear hq
    go_wp2
    go_ret
    exact ⟨says_no fun hh => hk hh.1, hb⟩

end Go.Proofs.Ytgnfiakbcogdlao
