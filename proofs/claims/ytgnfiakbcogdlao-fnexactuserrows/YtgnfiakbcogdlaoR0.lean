/- Rows: in memory, owned, copied, counted, held against each other, marked; the reading of an argument. -/
import Derived.Test.YtgnfiakbcogdlaoKey0
import Derived.Test.YtgnfiakbcogdlaoOpen0
import Derived.Test.YtgnfiakbcogdlaoRowOf
import Derived.Test.YtgnfiakbcogdlaoRegLast
import Derived.Handy
import Derived.ChangeMaps5
import Derived.Laws.StructEq
import Derived.Deep.AppendLies
namespace Go.Proofs.Ytgnfiakbcogdlao
open Go.ChangeShapes Go.WideShapes Go.ChangeAt Go.RowKit Go.Sort Go.Deep Go.Joins
set_option linter.unusedVariables false
set_option maxRecDepth 100000
attribute [local go_sem ↓] Go.wp_at_zero Go.wp_at_succ

structure Rw where
  t : Int
  r : Int
  v : Int

def rw0 : Rw := ⟨0, 0, 0⟩

def rAt (l : List Rw) (i : Nat) : Rw := l.getD i rw0

def cells3 (x : Rw) : List Value := [.int .i64 x.t, .int .i64 x.r, .int .i64 x.v]

def flat (l : List Rw) : List Value := l.flatMap cells3

theorem flat_length (l : List Rw) : (flat l).length = l.length * 3 := by
  induction l with
  | nil => rfl
  | cons x l ih => simp only [flat, List.flatMap_cons, List.length_append, List.length_cons] at *; rw [ih]; simp [cells3]; omega

theorem flat_snoc (l : List Rw) (x : Rw) : flat (l ++ [x]) = flat l ++ cells3 x := by simp [flat]

theorem flat_get : ∀ (l : List Rw) (i : Nat), i < l.length → (flat l)[i * 3]? = some (.int .i64 (rAt l i).t) ∧ (flat l)[i * 3 + 1]? = some (.int .i64 (rAt l i).r) ∧ (flat l)[i * 3 + 2]? = some (.int .i64 (rAt l i).v)
  | [], i, h => absurd h (Nat.not_lt_zero _)
  | x :: l, 0, h => by simp [flat, cells3, rAt]
  | x :: l, i + 1, h => by
    obtain ⟨h1, h2, h3⟩ := flat_get l i (by simpa using h)
    have e : flat (x :: l) = .int .i64 x.t :: .int .i64 x.r :: .int .i64 x.v :: flat l := by simp [flat, cells3]
    rw [e]
    refine ⟨?_, ?_, ?_⟩
    · rw [show (i + 1) * 3 = i * 3 + 1 + 1 + 1 by omega]; simpa [rAt] using h1
    · rw [show (i + 1) * 3 + 1 = i * 3 + 1 + 1 + 1 + 1 by omega]; simpa [rAt] using h2
    · rw [show (i + 1) * 3 + 2 = i * 3 + 2 + 1 + 1 + 1 by omega]; simpa [rAt] using h3

/-- The slice v holds the rows l, in a block of its own from base on. -/
def OwnR (base : Nat) (w : World) (v : Value) (l : List Rw) : Prop :=
  (v = .slice none 0 0 ∧ l = []) ∨ ∃ g cap f, v = .slice (some ⟨g, 0, none⟩) l.length cap ∧ base ≤ g ∧ RowOf w g 74 (l.length * 3) f ∧ ∀ i, i < l.length → f (i * 3) = .int .i64 (rAt l i).t ∧ f (i * 3 + 1) = .int .i64 (rAt l i).r ∧ f (i * 3 + 2) = .int .i64 (rAt l i).v

theorem OwnR.of_ownsRow {base : Nat} {w : World} {v : Value} {l : List Rw} (h : w.ownsRow base 74 3 v l.length (flat l)) : OwnR base w v l := by
  obtain ⟨h1, h2⟩ := h
  rcases h2 with ⟨rfl, h3⟩ | ⟨g, cap, cur, rfl, h4, h5, h6, h7, h8, h9⟩
  · exact .inl ⟨rfl, by simpa using h3⟩
  · have hget : ∀ j, j < l.length * 3 → cur[j]? = (flat l)[j]? := fun j hj => by
      rw [← h9, List.getElem?_take, if_pos hj]; simp
    refine .inr ⟨g, cap, fun j => ((flat l)[j]?).getD (.int .i64 0), rfl, h4, ⟨cur, h5, by rw [h8]; exact Nat.mul_le_mul_right 3 h6, fun j hj => ?_⟩, fun i hi => ?_⟩
    · rw [hget j hj]
      have : j < (flat l).length := by rw [flat_length]; exact hj
      simp [List.getElem?_eq_getElem this]
    · obtain ⟨g1, g2, g3⟩ := flat_get l i hi
      simp only [g1, g2, g3, Option.getD_some]
      exact ⟨trivial, trivial, trivial⟩

theorem OwnR.keep {base : Nat} {w w' : World} {v : Value} {l : List Rw} (h : OwnR base w v l) (hs : ∀ k, base ≤ k → k < w.heap.size → w'.heap[k]? = w.heap[k]?) : OwnR base w' v l := by
  rcases h with h | ⟨g, cap, f, h1, h2, h3, h4⟩
  · exact .inl h
  · exact .inr ⟨g, cap, f, h1, h2, h3.of_block (hs g h2 h3.lt), h4⟩

theorem OwnR.stays {base : Nat} {w w' : World} {v : Value} {l : List Rw} (h : OwnR base w v l) (hb : Below w.heap.size w w') : OwnR base w' v l := h.keep fun k _ hk => hb.block k hk

/-- The slice v holds the rows l. -/
def RowsAt (lo hi : Nat) (w : World) (v : Value) (l : List Rw) : Prop :=
  ∃ a cap, v = .slice a l.length cap ∧ l.length ≤ maxLen ∧ (0 < l.length → ∃ b off, a = some ⟨b, off, none⟩ ∧ lo ≤ b ∧ b < hi ∧
    ∀ i, i < l.length → w.cell? ⟨b, off + i * 3, none⟩ = some (.int .i64 (rAt l i).t) ∧ w.cell? ⟨b, off + i * 3 + 1, none⟩ = some (.int .i64 (rAt l i).r) ∧ w.cell? ⟨b, off + i * 3 + 2, none⟩ = some (.int .i64 (rAt l i).v))

theorem RowsAt.keep {lo hi : Nat} {w w' : World} {v : Value} {l : List Rw} (h : RowsAt lo hi w v l) (hs : ∀ b, lo ≤ b → b < hi → b < w.heap.size → w'.heap[b]? = w.heap[b]?) : RowsAt lo hi w' v l := by
  obtain ⟨a, cap, h1, h2, h3⟩ := h
  refine ⟨a, cap, h1, h2, fun hp => ?_⟩
  obtain ⟨b, off, ha, hl, hh, hc⟩ := h3 hp
  refine ⟨b, off, ha, hl, hh, fun i hi => ?_⟩
  obtain ⟨c0, c1, c2⟩ := hc i hi
  have e := hs b hl hh (cell_lt c0)
  exact ⟨cell_same e c0, cell_same e c1, cell_same e c2⟩

theorem RowsAt.stays {lo hi : Nat} {w w' : World} {v : Value} {l : List Rw} (h : RowsAt lo hi w v l) (hb : Below w.heap.size w w') : RowsAt lo hi w' v l := h.keep fun b _ _ hlt => hb.block b hlt

theorem RowsAt.wide {lo hi lo' hi' : Nat} {w : World} {v : Value} {l : List Rw} (h : RowsAt lo hi w v l) (hl : lo' ≤ lo) (hh : hi ≤ hi') : RowsAt lo' hi' w v l := by
  obtain ⟨a, cap, h1, h2, h3⟩ := h
  refine ⟨a, cap, h1, h2, fun hp => ?_⟩
  obtain ⟨b, off, ha, hl', hh', hc⟩ := h3 hp
  exact ⟨b, off, ha, by omega, by omega, hc⟩

def WfRw (l : List Rw) : Prop := ∀ i, i < l.length → wf (rAt l i).t ∧ wf (rAt l i).r

/-- The rows l lie in block b. -/
def OwnW (w : World) (b : Nat) (l : List Rw) : Prop := ∃ f, RowOf w b 74 (l.length * 3) f ∧ ∀ i, i < l.length → f (i * 3) = .int .i64 (rAt l i).t ∧ f (i * 3 + 1) = .int .i64 (rAt l i).r ∧ f (i * 3 + 2) = .int .i64 (rAt l i).v

theorem OwnW.of_block {w w' : World} {b : Nat} {l : List Rw} (h : OwnW w b l) (e : w'.heap[b]? = w.heap[b]?) : OwnW w' b l := by
  obtain ⟨f, h1, h2⟩ := h
  exact ⟨f, h1.of_block e, h2⟩

theorem OwnW.lt {w : World} {b : Nat} {l : List Rw} (h : OwnW w b l) : b < w.heap.size := by
  obtain ⟨f, h1, _⟩ := h
  exact h1.lt

theorem OwnW.rows {w : World} {b lo hi c : Nat} {l : List Rw} (h : OwnW w b l) (hlo : lo ≤ b) (hhi : b < hi) (hm : l.length ≤ 1048576) : RowsAt lo hi w (.slice (some ⟨b, 0, none⟩) l.length c) l := by
  obtain ⟨f, h1, h2⟩ := h
  refine ⟨_, _, rfl, by unfold maxLen; omega, fun hp => ⟨b, 0, rfl, hlo, hhi, fun i hi => ?_⟩⟩
  have g1 := h1.cell (show i * 3 < l.length * 3 by omega)
  have g2 := h1.cell (show i * 3 + 1 < l.length * 3 by omega)
  have g3 := h1.cell (show i * 3 + 2 < l.length * 3 by omega)
  rw [(h2 i hi).1] at g1
  rw [(h2 i hi).2.1] at g2
  rw [(h2 i hi).2.2] at g3
  exact ⟨by simpa using g1, by simpa using g2, by simpa using g3⟩

theorem toKey_any (a b : Int) (w : World) :
    Calls Try.prog 11 #[.agg #[.int .i64 a, .int .i64 b]] w fun e w' => e = .returned (.agg #[.int .i64 a, .int .i64 b]) ∧ Below w.heap.size w w' := by
  go_enter Try.func11, Try.ntmps11
  go_wp2
  refine bodyPost_ret (v := .agg #[.int .i64 a, .int .i64 b]) (by simp [results, Try.results11, go_sem]) rfl ⟨rfl, ?_⟩
  exact ((((Below.refl _ _).alloc (Nat.le_refl _) _).alloc (by simp) _).alloc (by simp; omega) _)

theorem eqKey_same (a b : Int) (w : World) :
    Calls Try.prog 77 #[.agg #[.int .i64 a, .int .i64 b], .agg #[.int .i64 a, .int .i64 b]] w fun e w' => e = .returned (.bool true) ∧ Below w.heap.size w w' := by
  go_enter Try.func77, Try.ntmps77
  go_wp2
  go_ret
  exact ⟨rfl, ((Below.refl _ _).alloc (Nat.le_refl _) _).alloc (by simp) _⟩

theorem toRow_any (t r v : Int) (w : World) :
    Calls Try.prog 39 #[.agg #[.int .i64 t, .int .i64 r, .int .i64 v]] w fun e w' => e = .returned (.agg #[.int .i64 t, .int .i64 r, .int .i64 v]) ∧ Below w.heap.size w w' := by
  go_enter Try.func39, Try.ntmps39
  go_wp2_with (first | (go_at_call 11; refine (toKey_any _ _ _).mono ?_; rintro e w1 ⟨rfl, hb1⟩; obtain ⟨hc1, hf1⟩ := bcell hb1; have hz1 : w.heap.size + 1 + 1 < w1.heap.size := by { have := hb1.size; simp at this; omega }; have hz1a : w.heap.size + 1 < w1.heap.size := by omega))
  have hbx : Below w.heap.size w w1 := (((Below.refl _ _).alloc (Nat.le_refl _) _).alloc (by simp) _).alloc (by simp; omega) _ |>.trans (hb1.mono (by simp; omega))
  refine bodyPost_ret (v := .agg #[.int .i64 t, .int .i64 r, .int .i64 v]) (by simp [results, Try.results39, go_sem, hc1]) rfl ⟨rfl, ?_⟩
  exact (((((hbx.setCell (by simp; omega) _).setCell (by simp; omega) _).setCell (by simp; omega) _).setCell (by simp) _).setCell (by simp) _).setCell (by simp) _

theorem infoRow : (Try.prog.info? 74).map (fun i => (i.zero, i.size, i.bytes)) = some (some (.agg #[.int .i64 0, .int .i64 0, .int .i64 0]), 3, 24) := by kernel_rfl

theorem make_rows (n : Nat) (hn : n ≤ 1048576) (w : World) :
    (Instr.makeSlice 26 (.int .i64 (n : Int)) (.int .i64 (n : Int))).run Try.prog w = .ok (.slice (some ⟨w.heap.size, 0, none⟩) n n) (w.alloc (.cells (madeCells #[.int .i64 0, .int .i64 0, .int .i64 0] (n * 3)) 74)) := by
  obtain ⟨i, hi, hz0, hz1, hz2⟩ := info_parts infoRow
  have hr := run_make (P := Try.prog) w 26 74 i _ Try.underlying26 hi hz0 .i64 .i64 n n (by omega) (Int.le_refl _) (by rw [hz2]; omega) (by omega)
  simpa [hz1, Value.cells] using hr

theorem toRowS_own (v : Value) (l : List Rw) (w : World) {lo hi : Nat} (h : RowsAt lo hi w v l) (hn : l.length ≤ 1048576) :
    Calls Try.prog 10 #[v] w fun e w' => e = .returned (.slice (some ⟨w.heap.size, 0, none⟩) l.length l.length) ∧ OwnW w' w.heap.size l ∧ Below w.heap.size w w' := by
  obtain ⟨a, cap, rfl, hm, hc⟩ := h
  have hmk := make_rows l.length hn
  go_enter Try.func10, Try.ntmps10
  go_wp2
  go_loopw [4] (fun i wr => ∃ (k : Nat) (f : Nat → Value), k ≤ l.length ∧ i = .int .i64 k ∧ Below w.heap.size w wr ∧ wr.rowIs w.heap.size 74 (l.length * 3) f ∧
      ∀ j, j < k → f (j * 3) = .int .i64 (rAt l j).t ∧ f (j * 3 + 1) = .int .i64 (rAt l j).r ∧ f (j * 3 + 2) = .int .i64 (rAt l j).v) (fun i _ => l.length - (intOf i).toNat)
  case atStart =>
    exact ⟨0, _, Nat.zero_le _, rfl, (Below.refl _ _).alloc (Nat.le_refl _) _, ⟨_, Deep.blk_alloc_new _ _, size_madeCells _ _, fun i hi => by simp [madeCells, hi]; rfl⟩, fun j hj => absurd hj (Nat.not_lt_zero _)⟩
  case round =>
    obtain ⟨k, f, hk, rfl, hb, hrow, hf⟩ := hrel
    by_cases hlt : k < l.length
    · obtain ⟨b, off, rfl, hlo, hhi, hcc⟩ := hc (by omega)
      obtain ⟨c0, c1, c2⟩ := hcc k hlt
      replace c0 := cell_stays hb c0
      replace c1 := cell_stays hb c1
      replace c2 := cell_stays hb c2
      clear hcc hc
      go_wp2_with (go_at_call 39; refine (toRow_any _ _ _ _).mono ?_; rintro e w1 ⟨rfl, hb1⟩; have r1 := hrow.of_block (hb1.block _ hrow.lt); have z0 := r1.cell (show k * 3 < l.length * 3 by omega); have z1 := r1.frozen (k * 3); have z2 := r1.cell (show k * 3 + 1 < l.length * 3 by omega); have z3 := r1.frozen (k * 3 + 1); have z4 := r1.cell (show k * 3 + 1 + 1 < l.length * 3 by omega); have z5 := r1.frozen (k * 3 + 1 + 1))
      go_roundw
      case rel =>
        refine ⟨k + 1, _, by omega, by go_num, (((hb.trans (hb1.mono hb.size)).setCell (Nat.le_refl _) _).setCell (Nat.le_refl _) _).setCell (Nat.le_refl _) _, ((r1.set _ _).set _ _).set _ _, fun j hj => ?_⟩
        by_cases e : j = k
        · subst e; simp
        · obtain ⟨g1, g2, g3⟩ := hf j (by omega)
          refine ⟨?_, ?_, ?_⟩
          · rw [if_neg (by omega), if_neg (by omega), if_neg (by omega)]; exact g1
          · rw [if_neg (by omega), if_neg (by omega), if_neg (by omega)]; exact g2
          · rw [if_neg (by omega), if_neg (by omega), if_neg (by omega)]; exact g3
      case measure => simp [intOf]; omega
    · have hkl : k = l.length := by omega
      go_wp2
      go_ret
      exact ⟨rfl, ⟨f, RowOf.of_rowIs hrow, fun i hi => hf i (by omega)⟩, hb⟩

theorem toRowS_ex (v : Value) (l : List Rw) (w : World) {lo hi : Nat} (h : RowsAt lo hi w v l) (hn : l.length ≤ 1048576) :
    Calls Try.prog 10 #[v] w fun e w' => ∃ B, e = .returned (.slice (some ⟨B, 0, none⟩) l.length l.length) ∧ OwnW w' B l ∧ w.heap.size ≤ B ∧ Below w.heap.size w w' :=
  (toRowS_own v l w h hn).mono fun e w' ⟨h1, h2, h3⟩ => ⟨_, h1, h2, Nat.le_refl _, h3⟩

theorem szRowS_any (v : Value) (l : List Rw) (w : World) {lo hi : Nat} (h : RowsAt lo hi w v l) (left : Int) (h0 : 0 ≤ left) (h1 : left ≤ 1048576) :
    Calls Try.prog 8 #[v, .int .i64 left] w fun e w' => ∃ r, e = .returned (.int .i64 r) ∧ r ≤ left ∧ (0 ≤ r → l.length ≤ 1048576) ∧ w' = w := by
  obtain ⟨a, cap, rfl, hm, hc⟩ := h
  clear hc
  unfold maxLen at hm
  by_cases hlt : left - l.length < 0
  · go_enter Try.func8, Try.ntmps8
    go_wp2
    go_ret
    exact ⟨_, rfl, by omega, by omega, rfl⟩
  · go_enter Try.func8, Try.ntmps8
    go_wp2
    go_ret
    exact ⟨_, rfl, by omega, by omega, rfl⟩

theorem eqRow_same (t r v : Int) (w : World) :
    Calls Try.prog 45 #[.agg #[.int .i64 t, .int .i64 r, .int .i64 v], .agg #[.int .i64 t, .int .i64 r, .int .i64 v]] w fun e w' => e = .returned (.bool true) ∧ Below w.heap.size w w' := by
  have hbx : Below w.heap.size w ((w.alloc (Obj.cells #[.int .i64 t, .int .i64 r, .int .i64 v] 74)).alloc (Obj.cells #[.int .i64 t, .int .i64 r, .int .i64 v] 74)) := ((Below.refl _ _).alloc (Nat.le_refl _) _).alloc (by simp) _
  go_enter Try.func45, Try.ntmps45
  go_wp2_with (first | (go_at_call 77; refine (eqKey_same _ _ _).mono ?_; rintro e w1 ⟨rfl, hb1⟩; obtain ⟨hc1, hf1⟩ := bcell hb1))
  go_ret
  exact ⟨rfl, hbx.trans (hb1.mono hbx.size)⟩

theorem eqRowS_same (v v' : Value) (l : List Rw) (w : World) {b b' : Nat} (h : OwnR b w v l) (h' : OwnR b' w v' l) (hn : l.length ≤ 1048580) :
    Calls Try.prog 13 #[v, v'] w fun e w' => e = .returned (.bool true) ∧ Below w.heap.size w w' := by
  obtain ⟨a, cap, rfl, hc⟩ : ∃ a cap, v = .slice a l.length cap ∧ (0 < l.length → ∃ g f, a = some ⟨g, 0, none⟩ ∧ RowOf w g 74 (l.length * 3) f ∧ ∀ i, i < l.length → f (i * 3) = .int .i64 (rAt l i).t ∧ f (i * 3 + 1) = .int .i64 (rAt l i).r ∧ f (i * 3 + 2) = .int .i64 (rAt l i).v) := by
    rcases h with ⟨rfl, rfl⟩ | ⟨g, cap, f, rfl, _, h3, h4⟩
    · exact ⟨none, 0, rfl, fun h => absurd h (Nat.lt_irrefl _)⟩
    · exact ⟨_, _, rfl, fun _ => ⟨g, f, rfl, h3, h4⟩⟩
  obtain ⟨a', cap', rfl, hc'⟩ : ∃ a cap, v' = .slice a l.length cap ∧ (0 < l.length → ∃ g f, a = some ⟨g, 0, none⟩ ∧ RowOf w g 74 (l.length * 3) f ∧ ∀ i, i < l.length → f (i * 3) = .int .i64 (rAt l i).t ∧ f (i * 3 + 1) = .int .i64 (rAt l i).r ∧ f (i * 3 + 2) = .int .i64 (rAt l i).v) := by
    rcases h' with ⟨rfl, rfl⟩ | ⟨g, cap, f, rfl, _, h3, h4⟩
    · exact ⟨none, 0, rfl, fun h => absurd h (Nat.lt_irrefl _)⟩
    · exact ⟨_, _, rfl, fun _ => ⟨g, f, rfl, h3, h4⟩⟩
  go_enter Try.func13, Try.ntmps13
  go_wp2
  go_loopw [5] (fun i wr => ∃ k : Nat, k ≤ l.length ∧ i = .int .i64 k ∧ Below w.heap.size w wr) (fun i _ => l.length - (intOf i).toNat)
  case atStart => exact ⟨0, Nat.zero_le _, rfl, Below.refl _ _⟩
  case round =>
    obtain ⟨k, hk, rfl, hb⟩ := hrel
    by_cases hlt : k < l.length
    · obtain ⟨g, f, rfl, hr, hf⟩ := hc (by omega)
      obtain ⟨g', f', rfl, hr', hf'⟩ := hc' (by omega)
      obtain ⟨e0, e1, e2⟩ := hf k hlt
      obtain ⟨e0', e1', e2'⟩ := hf' k hlt
      have c0 := cell_stays hb (hr.cell (show k * 3 < l.length * 3 by omega))
      have c1 := cell_stays hb (hr.cell (show k * 3 + 1 < l.length * 3 by omega))
      have c2 := cell_stays hb (hr.cell (show k * 3 + 2 < l.length * 3 by omega))
      have d0 := cell_stays hb (hr'.cell (show k * 3 < l.length * 3 by omega))
      have d1 := cell_stays hb (hr'.cell (show k * 3 + 1 < l.length * 3 by omega))
      have d2 := cell_stays hb (hr'.cell (show k * 3 + 2 < l.length * 3 by omega))
      rw [e0] at c0; rw [e1] at c1; rw [e2] at c2; rw [e0'] at d0; rw [e1'] at d1; rw [e2'] at d2
      have i0 : (0 : Int) ≤ (k : Int) := by omega
      have i1 : (k : Int) < (l.length : Int) := by omega
      clear hc hc' hf hf' hr hr' e0 e1 e2 e0' e1' e2'
      go_wp2_with fail
      go_region_held3 (fun x => Below w.heap.size w x ∧ x.cell? ⟨g, k * 3, none⟩ = some (.int .i64 (rAt l k).t) ∧ x.cell? ⟨g, k * 3 + 1, none⟩ = some (.int .i64 (rAt l k).r) ∧ x.cell? ⟨g, k * 3 + 2, none⟩ = some (.int .i64 (rAt l k).v) ∧ x.cell? ⟨g', k * 3, none⟩ = some (.int .i64 (rAt l k).t) ∧ x.cell? ⟨g', k * 3 + 1, none⟩ = some (.int .i64 (rAt l k).r) ∧ x.cell? ⟨g', k * 3 + 2, none⟩ = some (.int .i64 (rAt l k).v))
        (first | exact six_kept (by assumption) hb1 | exact ⟨hb.drew, c0, c1, c2, d0, d1, d2⟩)
        (first | (go_at_call 45; refine (eqRow_same _ _ _ _).mono ?_; rintro e w1 ⟨rfl, hb1⟩))
      rename_i hH
      go_wp2
      go_roundw
      case rel => exact ⟨k + 1, by omega, by go_num, hH.1⟩
      case measure => simp [intOf]; omega
    · go_wp2
      go_ret
      exact ⟨rfl, hb⟩

theorem eqRowS_at (v v' : Value) (l : List Rw) (w : World) {lo hi lo' hi' : Nat} (h : RowsAt lo hi w v l) (h' : RowsAt lo' hi' w v' l) :
    Calls Try.prog 13 #[v, v'] w fun e w' => e = .returned (.bool true) ∧ Below w.heap.size w w' := by
  obtain ⟨a, cap, rfl, hm, hc⟩ := h
  obtain ⟨a', cap', rfl, _, hc'⟩ := h'
  unfold maxLen at hm
  go_enter Try.func13, Try.ntmps13
  go_wp2
  go_loopw [5] (fun i wr => ∃ k : Nat, k ≤ l.length ∧ i = .int .i64 k ∧ Below w.heap.size w wr) (fun i _ => l.length - (intOf i).toNat)
  case atStart => exact ⟨0, Nat.zero_le _, rfl, Below.refl _ _⟩
  case round =>
    obtain ⟨k, hk, rfl, hb⟩ := hrel
    by_cases hlt : k < l.length
    · obtain ⟨b, off, rfl, _, _, hcc⟩ := hc (by omega)
      obtain ⟨b', off', rfl, _, _, hcc'⟩ := hc' (by omega)
      obtain ⟨c0, c1, c2⟩ := hcc k hlt
      obtain ⟨d0, d1, d2⟩ := hcc' k hlt
      replace c0 := cell_stays hb c0
      replace c1 := cell_stays hb c1
      replace c2 := cell_stays hb c2
      replace d0 := cell_stays hb d0
      replace d1 := cell_stays hb d1
      replace d2 := cell_stays hb d2
      have i0 : (0 : Int) ≤ (k : Int) := by omega
      have i1 : (k : Int) < (l.length : Int) := by omega
      clear hcc hc hcc' hc'
      go_wp2_with fail
      go_region_held3 (fun x => Below w.heap.size w x ∧ x.cell? ⟨b, off + k * 3, none⟩ = some (.int .i64 (rAt l k).t) ∧ x.cell? ⟨b, off + k * 3 + 1, none⟩ = some (.int .i64 (rAt l k).r) ∧ x.cell? ⟨b, off + k * 3 + 1 + 1, none⟩ = some (.int .i64 (rAt l k).v) ∧ x.cell? ⟨b', off' + k * 3, none⟩ = some (.int .i64 (rAt l k).t) ∧ x.cell? ⟨b', off' + k * 3 + 1, none⟩ = some (.int .i64 (rAt l k).r) ∧ x.cell? ⟨b', off' + k * 3 + 1 + 1, none⟩ = some (.int .i64 (rAt l k).v))
        (first | exact six_kept (by assumption) hb1 | exact ⟨hb.drew, c0, c1, c2, d0, d1, d2⟩)
        (first | (go_at_call 45; refine (eqRow_same _ _ _ _).mono ?_; rintro e w1 ⟨rfl, hb1⟩))
      rename_i hH
      go_wp2
      go_roundw
      case rel => exact ⟨k + 1, by omega, by go_num, hH.1⟩
      case measure => simp [intOf]; omega
    · go_wp2
      go_ret
      exact ⟨rfl, hb⟩












theorem key_held : Try.prog.stoodInHeld 29 = false := by kernel_rfl

theorem key_guard : Try.prog.eqGuardType Try.prog.depth 29 = false := by kernel_rfl

theorem key_fields : Try.prog.underlying 29 = some (.struct (Try.prog.fieldsOf 29)) := by kernel_rfl

theorem key_eql (a b c d : Int) (w : World) : (binOp .eql 29 (.agg #[.int .i64 a, .int .i64 b]) (.agg #[.int .i64 c, .int .i64 d])).run Try.prog w = .ok (.bool (decide (a = c ∧ b = d))) w := by
  by_cases h1 : a = c
  · by_cases h2 : b = d
    · simp [go_sem, h1, h2]
    · simp [go_sem, h1, h2]
  · simp [go_sem, h1]

section
variable {H : Type} {enc : TypeId × Value → H} {W : World}
theorem open_key_cells {fuel : Nat} {cs : List Value} {x : DataW H × List MemPlace} (h : DataW.trod enc Try.prog W 0 (fun _ => true) true fuel 24 cs = some x) :
    ∃ a b : Int, cs = [.int .i64 a, .int .i64 b] ∧ wf a ∧ wf b := by
  obtain ⟨y0, y1, n, _, hlen, h0, h1⟩ := trod_struct2 Try.underlying24 h
  have hc : Try.prog.cellsOf 24 = 2 := by kernel_rfl
  have hi : Try.prog.cellsOf 3 = 1 := by kernel_rfl
  rw [hc] at hlen
  match cs, hlen with
  | [v0, v1], _ =>
    simp only [hi] at h0 h1
    obtain ⟨n0, e0, _, w0⟩ := DataW.trod_int Try.underlying3 h0
    obtain ⟨n1, e1, _, w1⟩ := DataW.trod_int Try.underlying3 h1
    simp at e0 e1
    exact ⟨n0, n1, by rw [e0, e1], w0, w1⟩

theorem open_key {r : Reach} {b0 : Nat} {v0 : Value} {d : DataW H} {p : List MemPlace} (hv : Value.okWide Try.prog W r b0 24 v0) (h : DataW.Trod enc Try.prog W 0 (fun _ => true) true 24 v0 d p) :
    ∃ a b : Int, v0 = .agg #[.int .i64 a, .int .i64 b] ∧ wf a ∧ wf b := by
  obtain ⟨c0, c1, y0, y1, m, rfl, _, _, hy0, hy1⟩ := open_agg2 Try.underlying24 (by kernel_rfl) (by kernel_rfl) hv h
  obtain ⟨x, e0, _, w0⟩ := DataW.trod_int Try.underlying3 hy0
  obtain ⟨y, e1, _, w1⟩ := DataW.trod_int Try.underlying3 hy1
  simp at e0 e1
  exact ⟨x, y, by rw [e0, e1], w0, w1⟩

theorem open_rows {fuel : Nat} {cs : List Value} {x : DataW H × List MemPlace} (h : DataW.trod enc Try.prog W 0 (fun _ => true) true fuel 22 cs = some x) :
    ∃ a n cap l, cs = [.slice a n cap] ∧ n = l.length ∧ RowsAt 0 W.heap.size W (.slice a n cap) l ∧ WfRw l := by
  have hce : Try.prog.cellsOf 77 = 3 := by kernel_rfl
  have hck : Try.prog.cellsOf 24 = 2 := by kernel_rfl
  have hci : Try.prog.cellsOf 3 = 1 := by kernel_rfl
  rcases open_slice Try.underlying22 h with ⟨rfl, _⟩ | ⟨a, len, cap, m, n, D, Pl, rfl, _, hl, hm, hmm, _, hx⟩
  · exact ⟨none, 0, 0, [], rfl, rfl, ⟨none, 0, rfl, Nat.zero_le _, fun h => absurd h (Nat.lt_irrefl _)⟩, fun i hi => absurd hi (Nat.not_lt_zero _)⟩
  · obtain rfl : m = cap := by simpa using hmm
    have inh : Inhabited Rw := ⟨rw0⟩
    obtain ⟨f, hf⟩ := choose_lt (α := Rw) (n := len) (p := fun i q => W.cell? (a.add (i * 3)) = some (.int .i64 q.t) ∧ W.cell? (a.add (i * 3 + 1)) = some (.int .i64 q.r) ∧ W.cell? (a.add (i * 3 + 2)) = some (.int .i64 q.v) ∧ wf q.t ∧ wf q.r) (fun i hi => by
      obtain ⟨cs', h1, h2⟩ := hx i (by omega)
      rw [hce] at h1
      obtain ⟨_, hlen, hcell⟩ := World.cells?_some h1
      obtain ⟨y0, y1, n, _, _, h0, h1⟩ := trod_struct2 Try.underlying77 h2
      match cs', hlen with
      | [v0, v1, v2], _ =>
        simp only [hck, hci] at h0 h1
        obtain ⟨k0, k1, ek, wk0, wk1⟩ := open_key_cells h0
        obtain ⟨n1, e1', _, w1⟩ := DataW.trod_int Try.underlying3 h1
        simp at ek e1'
        have e0 := hcell 0 (by omega)
        have e1 := hcell 1 (by omega)
        have e2 := hcell 2 (by omega)
        rw [add_add] at e0 e1 e2
        refine ⟨⟨k0, k1, n1⟩, ?_, ?_, ?_, wk0, wk1⟩
        · simpa [ek.1] using e0
        · simpa [ek.2] using e1
        · simpa [e1'] using e2)
    refine ⟨some a, len, m, (List.range len).map f, rfl, by simp, ⟨some a, m, by simp, by simp; omega, fun hp => ?_⟩, fun i hi => by
      have hi' : i < len := by simpa using hi
      have e : rAt ((List.range len).map f) i = f i := by simp [rAt, hi']
      obtain ⟨_, _, _, g⟩ := hf i hi'
      rw [e]; exact g⟩
    have hlen : 0 < len := by simpa using hp
    have ha := spot_plain (by simpa using (hf 0 (by omega)).1)
    refine ⟨a.block, a.off, by rw [← ha], Nat.zero_le _, cell_lt (hf 0 (by omega)).1 |> fun h => by simpa [Addr.add] using h, fun i hi => ?_⟩
    have hi' : i < len := by simpa using hi
    obtain ⟨g0, g1, g2, _⟩ := hf i hi'
    have e : rAt ((List.range len).map f) i = f i := by simp [rAt, hi']
    rw [add_plain g0] at g0
    rw [add_plain g1] at g1
    rw [add_plain g2] at g2
    rw [e]
    exact ⟨g0, by simpa [Nat.add_assoc] using g1, by simpa [Nat.add_assoc] using g2⟩

end
theorem open_rowsArg {H : Type} {enc : TypeId × Value → H} {W : World} {rc : Reach} {b0 : Nat} {v0 : Value} {d : DataW H} {p : List MemPlace} (hv : Value.okWide Try.prog W rc b0 22 v0) (h : DataW.Trod enc Try.prog W 0 (fun _ => true) true 22 v0 d p) :
    ∃ a n cap l, v0 = .slice a n cap ∧ n = l.length ∧ RowsAt 0 W.heap.size W (.slice a n cap) l ∧ WfRw l := by
  obtain ⟨fuel, hf⟩ := h
  obtain ⟨a, n, cap, l, e, hn, hR, hW⟩ := open_rows hf
  refine ⟨a, n, cap, l, ?_, hn, hR, hW⟩
  obtain ⟨a', n', c', e'⟩ := okWide_slice Try.underlying22 hv
  subst e'
  simpa [Value.cells] using e

theorem ownKR : ownKnob Try.prog.godebug = none := by kernel_rfl
theorem laidOutR : laidOutB Try.prog = true := by kernel_rfl
end Go.Proofs.Ytgnfiakbcogdlao
