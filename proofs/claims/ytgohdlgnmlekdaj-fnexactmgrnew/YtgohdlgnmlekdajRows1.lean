/- Rows that a call owns; the same rows are the same. -/
import Derived.Test.YtgohdlgnmlekdajOwn
import Derived.Test.YtgohdlgnmlekdajRead
import Derived.Deep.AppendLies
namespace Go.Proofs.Ytgohdlgnmlekdaj
open Go.ChangeShapes Go.WideShapes Go.ChangeAt Go.RowKit Go.Sort
set_option linter.unusedVariables false
set_option maxRecDepth 100000
attribute [local go_sem ↓] Go.wp_at_zero Go.wp_at_succ

structure Rw where
  t : Int
  r : Int
  v : Int
def rw0 : Rw := ⟨0, 0, 0⟩
def rAt (l : List Rw) (i : Nat) : Rw := l.getD i rw0
def cells3 (x : Rw) : List Value := [.int .i64 x.t, .int .i64 x.r, .int .i64 x.v]
def flat (l : List Rw) : List Value := l.flatMap cells3

theorem flat_length (l : List Rw) : (flat l).length = l.length * 3 := by
  induction l with
  | nil => rfl
  | cons x l ih => simp only [flat, List.flatMap_cons, List.length_append, List.length_cons] at *; rw [ih]; simp [cells3]; omega
theorem flat_snoc (l : List Rw) (x : Rw) : flat (l ++ [x]) = flat l ++ cells3 x := by simp [flat]
theorem flat_get : ∀ (l : List Rw) (i : Nat), i < l.length → (flat l)[i * 3]? = some (.int .i64 (rAt l i).t) ∧ (flat l)[i * 3 + 1]? = some (.int .i64 (rAt l i).r) ∧ (flat l)[i * 3 + 2]? = some (.int .i64 (rAt l i).v)
  | [], i, h => absurd h (Nat.not_lt_zero _)
  | x :: l, 0, h => by simp [flat, cells3, rAt]
  | x :: l, i + 1, h => by
    obtain ⟨h1, h2, h3⟩ := flat_get l i (by simpa using h)
    have e : flat (x :: l) = .int .i64 x.t :: .int .i64 x.r :: .int .i64 x.v :: flat l := by simp [flat, cells3]
    rw [e]
    refine ⟨?_, ?_, ?_⟩
    · rw [show (i + 1) * 3 = i * 3 + 1 + 1 + 1 by omega]; simpa [rAt] using h1
    · rw [show (i + 1) * 3 + 1 = i * 3 + 1 + 1 + 1 + 1 by omega]; simpa [rAt] using h2
    · rw [show (i + 1) * 3 + 2 = i * 3 + 2 + 1 + 1 + 1 by omega]; simpa [rAt] using h3

/-- The slice v holds the rows l, in a block of its own from base on. -/
def OwnR (base : Nat) (w : World) (v : Value) (l : List Rw) : Prop :=
  (v = .slice none 0 0 ∧ l = []) ∨ ∃ g cap f, v = .slice (some ⟨g, 0, none⟩) l.length cap ∧ base ≤ g ∧ RowOf w g 79 (l.length * 3) f ∧ ∀ i, i < l.length → f (i * 3) = .int .i64 (rAt l i).t ∧ f (i * 3 + 1) = .int .i64 (rAt l i).r ∧ f (i * 3 + 2) = .int .i64 (rAt l i).v

theorem OwnR.of_ownsRow {base : Nat} {w : World} {v : Value} {l : List Rw} (h : w.ownsRow base 79 3 v l.length (flat l)) : OwnR base w v l := by
  obtain ⟨h1, h2⟩ := h
  rcases h2 with ⟨rfl, h3⟩ | ⟨g, cap, cur, rfl, h4, h5, h6, h7, h8, h9⟩
  · exact .inl ⟨rfl, by simpa using h3⟩
  · have hget : ∀ j, j < l.length * 3 → cur[j]? = (flat l)[j]? := fun j hj => by
      rw [← h9, List.getElem?_take, if_pos hj]; simp
    refine .inr ⟨g, cap, fun j => ((flat l)[j]?).getD (.int .i64 0), rfl, h4, ⟨cur, h5, by rw [h8]; exact Nat.mul_le_mul_right 3 h6, fun j hj => ?_⟩, fun i hi => ?_⟩
    · rw [hget j hj]
      have : j < (flat l).length := by rw [flat_length]; exact hj
      simp [List.getElem?_eq_getElem this]
    · obtain ⟨g1, g2, g3⟩ := flat_get l i hi
      simp only [g1, g2, g3, Option.getD_some]
      exact ⟨trivial, trivial, trivial⟩

theorem OwnR.keep {base : Nat} {w w' : World} {v : Value} {l : List Rw} (h : OwnR base w v l) (hs : ∀ k, base ≤ k → k < w.heap.size → w'.heap[k]? = w.heap[k]?) : OwnR base w' v l := by
  rcases h with h | ⟨g, cap, f, h1, h2, h3, h4⟩
  · exact .inl h
  · exact .inr ⟨g, cap, f, h1, h2, h3.of_block (hs g h2 h3.lt), h4⟩
theorem OwnR.stays {base : Nat} {w w' : World} {v : Value} {l : List Rw} (h : OwnR base w v l) (hb : Below w.heap.size w w') : OwnR base w' v l := h.keep fun k _ hk => hb.block k hk

theorem eqRow_same (t r v : Int) (w : World) :
    Calls Try.prog 57 #[.agg #[.int .i64 t, .int .i64 r, .int .i64 v], .agg #[.int .i64 t, .int .i64 r, .int .i64 v]] w fun e w' => e = .returned (.bool true) ∧ Below w.heap.size w w' := by
  have hbx : Below w.heap.size w ((w.alloc (Obj.cells #[.int .i64 t, .int .i64 r, .int .i64 v] 79)).alloc (Obj.cells #[.int .i64 t, .int .i64 r, .int .i64 v] 79)) := ((Below.refl _ _).alloc (Nat.le_refl _) _).alloc (by simp) _
  go_enter Try.func57, Try.ntmps57
  go_wp2_with (first | (go_at_call 85; refine (eqKey_same _ _ _).mono ?_; rintro e w1 ⟨rfl, hb1⟩; obtain ⟨hc1, hf1⟩ := bcell hb1))
  go_ret
  exact ⟨rfl, hbx.trans (hb1.mono hbx.size)⟩

theorem eqRowS_same (v v' : Value) (l : List Rw) (w : World) {b b' : Nat} (h : OwnR b w v l) (h' : OwnR b' w v' l) (hn : l.length ≤ 1048576) :
    Calls Try.prog 19 #[v, v'] w fun e w' => e = .returned (.bool true) ∧ Below w.heap.size w w' := by
  obtain ⟨a, cap, rfl, hc⟩ : ∃ a cap, v = .slice a l.length cap ∧ (0 < l.length → ∃ g f, a = some ⟨g, 0, none⟩ ∧ RowOf w g 79 (l.length * 3) f ∧ ∀ i, i < l.length → f (i * 3) = .int .i64 (rAt l i).t ∧ f (i * 3 + 1) = .int .i64 (rAt l i).r ∧ f (i * 3 + 2) = .int .i64 (rAt l i).v) := by
    rcases h with ⟨rfl, rfl⟩ | ⟨g, cap, f, rfl, _, h3, h4⟩
    · exact ⟨none, 0, rfl, fun h => absurd h (Nat.lt_irrefl _)⟩
    · exact ⟨_, _, rfl, fun _ => ⟨g, f, rfl, h3, h4⟩⟩
  obtain ⟨a', cap', rfl, hc'⟩ : ∃ a cap, v' = .slice a l.length cap ∧ (0 < l.length → ∃ g f, a = some ⟨g, 0, none⟩ ∧ RowOf w g 79 (l.length * 3) f ∧ ∀ i, i < l.length → f (i * 3) = .int .i64 (rAt l i).t ∧ f (i * 3 + 1) = .int .i64 (rAt l i).r ∧ f (i * 3 + 2) = .int .i64 (rAt l i).v) := by
    rcases h' with ⟨rfl, rfl⟩ | ⟨g, cap, f, rfl, _, h3, h4⟩
    · exact ⟨none, 0, rfl, fun h => absurd h (Nat.lt_irrefl _)⟩
    · exact ⟨_, _, rfl, fun _ => ⟨g, f, rfl, h3, h4⟩⟩
  go_enter Try.func19, Try.ntmps19
  go_wp2
  go_loopw [5] (fun i wr => ∃ k : Nat, k ≤ l.length ∧ i = .int .i64 k ∧ Below w.heap.size w wr) (fun i _ => l.length - (intOf i).toNat)
  case atStart => exact ⟨0, Nat.zero_le _, rfl, Below.refl _ _⟩
  case round =>
    obtain ⟨k, hk, rfl, hb⟩ := hrel
    by_cases hlt : k < l.length
    · obtain ⟨g, f, rfl, hr, hf⟩ := hc (by omega)
      obtain ⟨g', f', rfl, hr', hf'⟩ := hc' (by omega)
      obtain ⟨e0, e1, e2⟩ := hf k hlt
      obtain ⟨e0', e1', e2'⟩ := hf' k hlt
      have c0 := cell_stays hb (hr.cell (show k * 3 < l.length * 3 by omega))
      have c1 := cell_stays hb (hr.cell (show k * 3 + 1 < l.length * 3 by omega))
      have c2 := cell_stays hb (hr.cell (show k * 3 + 2 < l.length * 3 by omega))
      have d0 := cell_stays hb (hr'.cell (show k * 3 < l.length * 3 by omega))
      have d1 := cell_stays hb (hr'.cell (show k * 3 + 1 < l.length * 3 by omega))
      have d2 := cell_stays hb (hr'.cell (show k * 3 + 2 < l.length * 3 by omega))
      rw [e0] at c0; rw [e1] at c1; rw [e2] at c2; rw [e0'] at d0; rw [e1'] at d1; rw [e2'] at d2
      have i0 : (0 : Int) ≤ (k : Int) := by omega
      have i1 : (k : Int) < (l.length : Int) := by omega
      clear hc hc' hf hf' hr hr' e0 e1 e2 e0' e1' e2'
      go_wp2_with fail
      go_region_held3 (fun x => Below w.heap.size w x ∧ x.cell? ⟨g, k * 3, none⟩ = some (.int .i64 (rAt l k).t) ∧ x.cell? ⟨g, k * 3 + 1, none⟩ = some (.int .i64 (rAt l k).r) ∧ x.cell? ⟨g, k * 3 + 2, none⟩ = some (.int .i64 (rAt l k).v) ∧ x.cell? ⟨g', k * 3, none⟩ = some (.int .i64 (rAt l k).t) ∧ x.cell? ⟨g', k * 3 + 1, none⟩ = some (.int .i64 (rAt l k).r) ∧ x.cell? ⟨g', k * 3 + 2, none⟩ = some (.int .i64 (rAt l k).v))
        (first | exact six_kept (by assumption) hb1 | exact ⟨hb.drew, c0, c1, c2, d0, d1, d2⟩)
        (first | (go_at_call 57; refine (eqRow_same _ _ _ _).mono ?_; rintro e w1 ⟨rfl, hb1⟩))
      rename_i hH
      go_wp2
      go_roundw
      case rel => exact ⟨k + 1, by omega, by go_num, hH.1⟩
      case measure => simp [intOf]; omega
    · go_wp2
      go_ret
      exact ⟨rfl, hb⟩

end Go.Proofs.Ytgohdlgnmlekdaj
