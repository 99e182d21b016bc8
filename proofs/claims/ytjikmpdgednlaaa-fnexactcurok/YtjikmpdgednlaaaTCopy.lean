/- The copying functions of the exact laws, for sets: what they hand back holds the same data, in new memory. -/
import Derived.Test.YtjikmpdgednlaaaRows
import Derived.Test.YtjikmpdgednlaaaTSetAt
import Derived.Outline
import Derived.Handy
import Derived.Deep.RegionHeld3
import Derived.Deep.DrawnRows
namespace Go.Proofs.Ytjikmpdgednlaaa
open Go.ChangeShapes Go.WideShapes Go.ChangeAt Go.RowKit
set_option linter.unusedVariables false
set_option maxRecDepth 100000
attribute [local go_sem ↓] Go.wp_at_zero Go.wp_at_succ

theorem infoInt : (Try.prog.info? 3).map (fun i => (i.zero, i.size, i.bytes)) = some (some (.int .i64 0), 1, 8) := by kernel_rfl
theorem infoStr : (Try.prog.info? 9).map (fun i => (i.zero, i.size, i.bytes)) = some (some (.string ⟨#[]⟩), 1, 16) := by kernel_rfl
theorem infoNode : (Try.prog.info? 72).map (fun i => (i.zero, i.size, i.bytes)) = some (some (.agg #[.int .i64 0, .string ⟨#[]⟩, .int .i64 0, .slice none 0 0]), 4, 56) := by kernel_rfl
theorem infoProc : (Try.prog.info? 73).map (fun i => (i.zero, i.size, i.bytes)) = some (some (.agg #[.string ⟨#[]⟩, .slice none 0 0, .int .i64 0]), 3, 48) := by kernel_rfl

theorem make_ints (n : Nat) (hn : n ≤ 1048576) (w : World) :
    (Instr.makeSlice 62 (.int .i64 (n : Int)) (.int .i64 (n : Int))).run Try.prog w = .ok (.slice (some ⟨w.heap.size, 0, none⟩) n n) (w.alloc (.cells (madeCells #[.int .i64 0] n) 3)) := by
  obtain ⟨i, hi, hz0, hz1, hz2⟩ := info_parts infoInt
  have hr := run_make (P := Try.prog) w 62 3 i _ Try.underlying62 hi hz0 .i64 .i64 n n (by omega) (Int.le_refl _) (by rw [hz2]; omega) (by omega)
  simpa [hz1, Value.cells] using hr
theorem make_texts (n : Nat) (hn : n ≤ 1048576) (w : World) :
    (Instr.makeSlice 66 (.int .i64 (n : Int)) (.int .i64 (n : Int))).run Try.prog w = .ok (.slice (some ⟨w.heap.size, 0, none⟩) n n) (w.alloc (.cells (madeCells #[.string ⟨#[]⟩] n) 9)) := by
  obtain ⟨i, hi, hz0, hz1, hz2⟩ := info_parts infoStr
  have hr := run_make (P := Try.prog) w 66 9 i _ Try.underlying66 hi hz0 .i64 .i64 n n (by omega) (Int.le_refl _) (by rw [hz2]; omega) (by omega)
  simpa [hz1, Value.cells] using hr
theorem make_nodes (n : Nat) (hn : n ≤ 1048576) (w : World) :
    (Instr.makeSlice 33 (.int .i64 (n : Int)) (.int .i64 (n : Int))).run Try.prog w = .ok (.slice (some ⟨w.heap.size, 0, none⟩) n n) (w.alloc (.cells (madeCells #[.int .i64 0, .string ⟨#[]⟩, .int .i64 0, .slice none 0 0] (n * 4)) 72)) := by
  obtain ⟨i, hi, hz0, hz1, hz2⟩ := info_parts infoNode
  have hr := run_make (P := Try.prog) w 33 72 i _ Try.underlying33 hi hz0 .i64 .i64 n n (by omega) (Int.le_refl _) (by rw [hz2]; omega) (by omega)
  simpa [hz1, Value.cells] using hr
theorem make_procs (n : Nat) (hn : n ≤ 1048576) (w : World) :
    (Instr.makeSlice 34 (.int .i64 (n : Int)) (.int .i64 (n : Int))).run Try.prog w = .ok (.slice (some ⟨w.heap.size, 0, none⟩) n n) (w.alloc (.cells (madeCells #[.string ⟨#[]⟩, .slice none 0 0, .int .i64 0] (n * 3)) 73)) := by
  obtain ⟨i, hi, hz0, hz1, hz2⟩ := info_parts infoProc
  have hr := run_make (P := Try.prog) w 34 73 i _ Try.underlying34 hi hz0 .i64 .i64 n n (by omega) (Int.le_refl _) (by rw [hz2]; omega) (by omega)
  simpa [hz1, Value.cells] using hr

/-- All lists are of bounded length. -/
def SmallN (l : List Nd) : Prop := l.length ≤ 1048576 ∧ ∀ i, i < l.length → (ndAt l i).kids.length ≤ 1048576
def SmallP (l : List Pr) : Prop := l.length ≤ 1048576 ∧ ∀ i, i < l.length → (prAt l i).ps.length ≤ 1048576

theorem toIntS_any (v : Value) (l : List Int) (w : World) {lo hi : Nat} (h : IntsAt lo hi w v l) (hn : l.length ≤ 1048576) :
    Calls Try.prog 60 #[v] w fun e w' => ∃ a c, e = .returned (.slice a l.length c) ∧ IntsAt w.heap.size w'.heap.size w' (.slice a l.length c) l ∧ Below w.heap.size w w' := by
  obtain ⟨a, cap, rfl, hm, hc⟩ := h
  have hmk := make_ints l.length hn
  go_enter Try.func60, Try.ntmps60
  go_wp2
  go_loopw [4] (fun i wr => ∃ (k : Nat) (f : Nat → Value), k ≤ l.length ∧ i = .int .i64 k ∧ Below w.heap.size w wr ∧ wr.rowIs w.heap.size 3 l.length f ∧
      ∀ j, j < k → f j = .int .i64 (iAt l j)) (fun i _ => l.length - (intOf i).toNat)
  case atStart =>
    exact ⟨0, _, Nat.zero_le _, rfl, (Below.refl _ _).alloc (Nat.le_refl _) _, ⟨_, Deep.blk_alloc_new _ _, size_madeCells _ _, fun i hi => by simp [madeCells, hi]; rfl⟩, fun j hj => absurd hj (Nat.not_lt_zero _)⟩
  case round =>
    obtain ⟨k, f, hk, rfl, hb, hrow, hf⟩ := hrel
    by_cases hlt : k < l.length
    · obtain ⟨b, off, rfl, hlo, hhi, hcc⟩ := hc (by omega)
      have c0 := cell_stays hb (hcc k hlt)
      have z0 := hrow.cell (show k < l.length by omega)
      have z1 := hrow.frozen k
      clear hcc hc
      go_wp2
      go_roundw
      case rel =>
        refine ⟨k + 1, _, by omega, by go_num, hb.setCell (Nat.le_refl _) _, hrow.set _ _, fun j hj => ?_⟩
        by_cases e : j = k
        · subst e; simp
        · have := hf j (by omega)
          rw [if_neg (by omega)]
          exact this
      case measure => simp [intOf]; omega
    · have hkl : k = l.length := by omega
      go_wp2
      go_ret
      refine ⟨_, _, rfl, ⟨_, _, rfl, hm, fun hp => ⟨_, _, rfl, Nat.le_refl _, hrow.lt, fun i hi => ?_⟩⟩, hb⟩
      have h1 := hrow.cell (show i < l.length by omega)
      rw [hf i (by omega)] at h1
      simpa using h1

theorem toStringS_any (v : Value) (l : List ByteArray) (w : World) {lo hi : Nat} (h : TextsAt lo hi w v l) (hn : l.length ≤ 1048576) :
    Calls Try.prog 61 #[v] w fun e w' => ∃ a c, e = .returned (.slice a l.length c) ∧ TextsAt w.heap.size w'.heap.size w' (.slice a l.length c) l ∧ Below w.heap.size w w' := by
  obtain ⟨a, cap, rfl, hm, hc⟩ := h
  have hmk := make_texts l.length hn
  go_enter Try.func61, Try.ntmps61
  go_wp2
  go_loopw [4] (fun i wr => ∃ (k : Nat) (f : Nat → Value), k ≤ l.length ∧ i = .int .i64 k ∧ Below w.heap.size w wr ∧ wr.rowIs w.heap.size 9 l.length f ∧
      ∀ j, j < k → f j = .string (sAt l j)) (fun i _ => l.length - (intOf i).toNat)
  case atStart =>
    exact ⟨0, _, Nat.zero_le _, rfl, (Below.refl _ _).alloc (Nat.le_refl _) _, ⟨_, Deep.blk_alloc_new _ _, size_madeCells _ _, fun i hi => by simp [madeCells, hi]; rfl⟩, fun j hj => absurd hj (Nat.not_lt_zero _)⟩
  case round =>
    obtain ⟨k, f, hk, rfl, hb, hrow, hf⟩ := hrel
    by_cases hlt : k < l.length
    · obtain ⟨b, off, rfl, hlo, hhi, hcc⟩ := hc (by omega)
      have c0 := cell_stays hb (hcc k hlt)
      have z0 := hrow.cell (show k < l.length by omega)
      have z1 := hrow.frozen k
      clear hcc hc
      go_wp2
      go_roundw
      case rel =>
        refine ⟨k + 1, _, by omega, by go_num, hb.setCell (Nat.le_refl _) _, hrow.set _ _, fun j hj => ?_⟩
        by_cases e : j = k
        · subst e; simp
        · have := hf j (by omega)
          rw [if_neg (by omega)]
          exact this
      case measure => simp [intOf]; omega
    · have hkl : k = l.length := by omega
      go_wp2
      go_ret
      refine ⟨_, _, rfl, ⟨_, _, rfl, hm, fun hp => ⟨_, _, rfl, Nat.le_refl _, hrow.lt, fun i hi => ?_⟩⟩, hb⟩
      have h1 := hrow.cell (show i < l.length by omega)
      rw [hf i (by omega)] at h1
      simpa using h1

theorem toNode_any (k : Int) (s : ByteArray) (n : Int) (v : Value) (l : List Int) (w : World) {lo hi : Nat} (h : IntsAt lo hi w v l) (hn : l.length ≤ 1048576) :
    Calls Try.prog 39 #[.agg #[.int .i64 k, .string s, .int .i64 n, v]] w fun e w' => ∃ a c, e = .returned (.agg #[.int .i64 k, .string s, .int .i64 n, .slice a l.length c]) ∧ IntsAt w.heap.size w'.heap.size w' (.slice a l.length c) l ∧ Below w.heap.size w w' := by
  obtain ⟨a, cap, hv⟩ : ∃ a cap, v = .slice a l.length cap := by obtain ⟨a, cap, h1, _⟩ := h; exact ⟨a, cap, h1⟩
  subst hv
  go_enter Try.func39, Try.ntmps39
  go_wp2_with fail
  refine Calls.mono (toIntS_any _ l _ (h.stays ?hbx) hn) ?_
  case hbx => go_grown
  rintro e w2 ⟨a', c', rfl, hv, hb2⟩
  obtain ⟨hc2, hf2⟩ := bcell hb2
  have hz2 : w.heap.size + 1 + 1 < w2.heap.size := by have := hb2.size; simp at this; omega
  have hbx : Below w.heap.size w w2 := Below.trans (by go_grown) (hb2.mono (by simp; omega))
  have hlow : w.heap.size + 3 ≤ w2.heap.size := by omega
  replace hv : IntsAt (w.heap.size + 3) w2.heap.size w2 (.slice a' l.length c') l := hv.wide (by simp) (Nat.le_refl _)
  go_wp2
  refine bodyPost_ret (v := .agg #[.int .i64 k, .string s, .int .i64 n, .slice a' l.length c']) (by simp [results, Try.results39, go_sem, hc2]) rfl ⟨_, _, rfl, ?_, ?_⟩
  · refine (hv.keep fun b hb _ _ => ?_).wide (by omega) (by simp only [size_setCell]; omega)
    repeat rw [Below.heap_setCell _ _ _ _ (by simp; omega)]
  · go_grown

theorem toProc_any (nm : ByteArray) (v : Value) (l : List ByteArray) (n : Int) (w : World) {lo hi : Nat} (h : TextsAt lo hi w v l) (hn : l.length ≤ 1048576) :
    Calls Try.prog 40 #[.agg #[.string nm, v, .int .i64 n]] w fun e w' => ∃ a c, e = .returned (.agg #[.string nm, .slice a l.length c, .int .i64 n]) ∧ TextsAt w.heap.size w'.heap.size w' (.slice a l.length c) l ∧ Below w.heap.size w w' := by
  obtain ⟨a, cap, hv⟩ : ∃ a cap, v = .slice a l.length cap := by obtain ⟨a, cap, h1, _⟩ := h; exact ⟨a, cap, h1⟩
  subst hv
  go_enter Try.func40, Try.ntmps40
  go_wp2_with fail
  refine Calls.mono (toStringS_any _ l _ (h.stays ?hbx) hn) ?_
  case hbx => go_grown
  rintro e w2 ⟨a', c', rfl, hv, hb2⟩
  obtain ⟨hc2, hf2⟩ := bcell hb2
  have hz2 : w.heap.size + 1 + 1 < w2.heap.size := by have := hb2.size; simp at this; omega
  have hbx : Below w.heap.size w w2 := Below.trans (by go_grown) (hb2.mono (by simp; omega))
  have hlow : w.heap.size + 3 ≤ w2.heap.size := by omega
  replace hv : TextsAt (w.heap.size + 3) w2.heap.size w2 (.slice a' l.length c') l := hv.wide (by simp) (Nat.le_refl _)
  have hz2a : w.heap.size < w2.heap.size := by omega
  go_wp2
  refine bodyPost_ret (v := .agg #[.string nm, .slice a' l.length c', .int .i64 n]) (by simp [results, Try.results40, go_sem, hc2]) rfl ⟨_, _, rfl, ?_, ?_⟩
  · refine (hv.keep fun b hb _ _ => ?_).wide (by omega) (by simp only [size_setCell]; omega)
    repeat rw [Below.heap_setCell _ _ _ _ (by simp; omega)]
  · go_grown

theorem toNodeS_any (v : Value) (l : List Nd) (w : World) {lo hi : Nat} (h : NodesAt lo hi w v l) (hn : SmallN l) :
    Calls Try.prog 19 #[v] w fun e w' => ∃ a c, e = .returned (.slice a l.length c) ∧ NodesAt w.heap.size w'.heap.size w' (.slice a l.length c) l ∧ Below w.heap.size w w' := by
  obtain ⟨a, cap, rfl, hm, hc⟩ := h
  have hn1 := hn.1
  have hmk := make_nodes l.length hn1
  go_enter Try.func19, Try.ntmps19
  go_wp2
  go_loopw [4] (fun i wr => ∃ (k : Nat) (f : Nat → Value), k ≤ l.length ∧ i = .int .i64 k ∧ Below w.heap.size w wr ∧ wr.rowIs w.heap.size 72 (l.length * 4) f ∧
      ∀ j, j < k → f (j * 4) = .int .i64 (ndAt l j).k ∧ f (j * 4 + 1) = .string (ndAt l j).s ∧ f (j * 4 + 1 + 1) = .int .i64 (ndAt l j).n ∧ ∃ a c, f (j * 4 + 1 + 1 + 1) = .slice a (ndAt l j).kids.length c ∧ IntsAt (w.heap.size + 1) wr.heap.size wr (.slice a (ndAt l j).kids.length c) (ndAt l j).kids) (fun i _ => l.length - (intOf i).toNat)
  case atStart =>
    exact ⟨0, _, Nat.zero_le _, rfl, (Below.refl _ _).alloc (Nat.le_refl _) _, ⟨_, Deep.blk_alloc_new _ _, size_madeCells _ _, fun i hi => by simp [madeCells, hi]; rfl⟩, fun j hj => absurd hj (Nat.not_lt_zero _)⟩
  case round =>
    obtain ⟨k, f, hk, rfl, hb, hrow, hf⟩ := hrel
    by_cases hlt : k < l.length
    · obtain ⟨b, off, rfl, hlo, hhi, hcc⟩ := hc (by omega)
      obtain ⟨c0, c1, c2, a2, cap2, c3, c4⟩ := hcc k hlt
      have c0 := cell_stays hb c0
      have c1 := cell_stays hb c1
      have c2 := cell_stays hb c2
      have c3 := cell_stays hb c3
      have c4 := c4.stays hb
      have hn2 := hn.2 k hlt
      have hlt' := hrow.lt
      clear hcc hc
      go_wp2_with (go_at_call 39; refine (toNode_any _ _ _ _ _ _ c4 hn2).mono ?_; rintro e w1 ⟨a3, cap3, rfl, hv, hb1⟩; have r1 := hrow.of_block (hb1.block _ hrow.lt); have z0 := r1.cell (show k * 4 < l.length * 4 by omega); have z1 := r1.frozen (k * 4); have z2 := r1.cell (show k * 4 + 1 < l.length * 4 by omega); have z3 := r1.frozen (k * 4 + 1); have z4 := r1.cell (show k * 4 + 1 + 1 < l.length * 4 by omega); have z5 := r1.frozen (k * 4 + 1 + 1); have z6 := r1.cell (show k * 4 + 1 + 1 + 1 < l.length * 4 by omega); have z7 := r1.frozen (k * 4 + 1 + 1 + 1))
      go_roundw
      case rel =>
        refine ⟨k + 1, _, by omega, by go_num, ((((hb.trans (hb1.mono hb.size)).setCell (Nat.le_refl _) _).setCell (Nat.le_refl _) _).setCell (Nat.le_refl _) _).setCell (Nat.le_refl _) _, (((r1.set _ _).set _ _).set _ _).set _ _, fun j hj => ?_⟩
        have hs : ∀ b, w.heap.size + 1 ≤ b → ((((w1.setCell ⟨w.heap.size, k * 4, none⟩ (Value.int IntKind.i64 (ndAt l k).k)).setCell ⟨w.heap.size, k * 4 + 1, none⟩ (Value.string (ndAt l k).s)).setCell ⟨w.heap.size, k * 4 + 2, none⟩ (Value.int IntKind.i64 (ndAt l k).n)).setCell ⟨w.heap.size, k * 4 + 3, none⟩ (Value.slice a3 (ndAt l k).kids.length cap3)).heap[b]? = w1.heap[b]? := fun b hb => by
          iterate 4 rw [Below.heap_setCell _ _ _ _ (by simp; omega)]
        by_cases e : j = k
        · subst e
          exact ⟨by simp, by simp, by simp, a3, cap3, by simp, (((hv.wide (show w.heap.size + 1 ≤ wr.heap.size by omega) (Nat.le_refl _)).keep fun b hb _ _ => hs b hb)).wide (Nat.le_refl _) (by simp only [size_setCell]; omega)⟩
        · obtain ⟨g1, g2, g3, ga, gc, g4, g5⟩ := hf j (by omega)
          refine ⟨?_, ?_, ?_, ga, gc, ?_, (((g5.stays hb1).keep fun b hb _ _ => hs b hb)).wide (Nat.le_refl _) (by simp only [size_setCell]; exact hb1.size)⟩
          · rw [if_neg (by omega), if_neg (by omega), if_neg (by omega), if_neg (by omega)]; exact g1
          · rw [if_neg (by omega), if_neg (by omega), if_neg (by omega), if_neg (by omega)]; exact g2
          · rw [if_neg (by omega), if_neg (by omega), if_neg (by omega), if_neg (by omega)]; exact g3
          · rw [if_neg (by omega), if_neg (by omega), if_neg (by omega), if_neg (by omega)]; exact g4
      case measure => simp [intOf]; omega
    · have hkl : k = l.length := by omega
      go_wp2
      go_ret
      refine ⟨_, _, rfl, ⟨_, _, rfl, hm, fun hp => ⟨_, _, rfl, Nat.le_refl _, hrow.lt, fun i hi => ?_⟩⟩, hb⟩
      have h1 := hrow.cell (show i * 4 < l.length * 4 by omega)
      have h2 := hrow.cell (show i * 4 + 1 < l.length * 4 by omega)
      have h3 := hrow.cell (show i * 4 + 1 + 1 < l.length * 4 by omega)
      have h4 := hrow.cell (show i * 4 + 1 + 1 + 1 < l.length * 4 by omega)
      obtain ⟨g1, g2, g3, ga, gc, g4, g5⟩ := hf i (by omega)
      rw [g1] at h1
      rw [g2] at h2
      rw [g3] at h3
      rw [g4] at h4
      exact ⟨by simpa using h1, by simpa using h2, by simpa using h3, ga, gc, by simpa using h4, g5.wide (by omega) (Nat.le_refl _)⟩

theorem toProcS_any (v : Value) (l : List Pr) (w : World) {lo hi : Nat} (h : ProcsAt lo hi w v l) (hn : SmallP l) :
    Calls Try.prog 20 #[v] w fun e w' => ∃ a c, e = .returned (.slice a l.length c) ∧ ProcsAt w.heap.size w'.heap.size w' (.slice a l.length c) l ∧ Below w.heap.size w w' := by
  obtain ⟨a, cap, rfl, hm, hc⟩ := h
  have hn1 := hn.1
  have hmk := make_procs l.length hn1
  go_enter Try.func20, Try.ntmps20
  go_wp2
  go_loopw [4] (fun i wr => ∃ (k : Nat) (f : Nat → Value), k ≤ l.length ∧ i = .int .i64 k ∧ Below w.heap.size w wr ∧ wr.rowIs w.heap.size 73 (l.length * 3) f ∧
      ∀ j, j < k → f (j * 3) = .string (prAt l j).name ∧ (∃ a c, f (j * 3 + 1) = .slice a (prAt l j).ps.length c ∧ TextsAt (w.heap.size + 1) wr.heap.size wr (.slice a (prAt l j).ps.length c) (prAt l j).ps) ∧ f (j * 3 + 1 + 1) = .int .i64 (prAt l j).body) (fun i _ => l.length - (intOf i).toNat)
  case atStart =>
    exact ⟨0, _, Nat.zero_le _, rfl, (Below.refl _ _).alloc (Nat.le_refl _) _, ⟨_, Deep.blk_alloc_new _ _, size_madeCells _ _, fun i hi => by simp [madeCells, hi]; rfl⟩, fun j hj => absurd hj (Nat.not_lt_zero _)⟩
  case round =>
    obtain ⟨k, f, hk, rfl, hb, hrow, hf⟩ := hrel
    by_cases hlt : k < l.length
    · obtain ⟨b, off, rfl, hlo, hhi, hcc⟩ := hc (by omega)
      obtain ⟨c0, ⟨a2, cap2, c1, c4⟩, c2⟩ := hcc k hlt
      have c0 := cell_stays hb c0
      have c1 := cell_stays hb c1
      have c2 := cell_stays hb c2
      have c4 := c4.stays hb
      have hn2 := hn.2 k hlt
      have hlt' := hrow.lt
      clear hcc hc
      go_wp2_with (go_at_call 40; refine (toProc_any _ _ _ _ _ c4 hn2).mono ?_; rintro e w1 ⟨a3, cap3, rfl, hv, hb1⟩; have r1 := hrow.of_block (hb1.block _ hrow.lt); have z0 := r1.cell (show k * 3 < l.length * 3 by omega); have z1 := r1.frozen (k * 3); have z2 := r1.cell (show k * 3 + 1 < l.length * 3 by omega); have z3 := r1.frozen (k * 3 + 1); have z4 := r1.cell (show k * 3 + 1 + 1 < l.length * 3 by omega); have z5 := r1.frozen (k * 3 + 1 + 1))
      go_roundw
      case rel =>
        refine ⟨k + 1, _, by omega, by go_num, (((hb.trans (hb1.mono hb.size)).setCell (Nat.le_refl _) _).setCell (Nat.le_refl _) _).setCell (Nat.le_refl _) _, ((r1.set _ _).set _ _).set _ _, fun j hj => ?_⟩
        have hs : ∀ b, w.heap.size + 1 ≤ b → (((w1.setCell ⟨w.heap.size, k * 3, none⟩ (Value.string (prAt l k).name)).setCell ⟨w.heap.size, k * 3 + 1, none⟩ (Value.slice a3 (prAt l k).ps.length cap3)).setCell ⟨w.heap.size, k * 3 + 2, none⟩ (Value.int IntKind.i64 (prAt l k).body)).heap[b]? = w1.heap[b]? := fun b hb => by
          iterate 3 rw [Below.heap_setCell _ _ _ _ (by simp; omega)]
        by_cases e : j = k
        · subst e
          exact ⟨by simp, ⟨a3, cap3, by simp, (((hv.wide (show w.heap.size + 1 ≤ wr.heap.size by omega) (Nat.le_refl _)).keep fun b hb _ _ => hs b hb)).wide (Nat.le_refl _) (by simp only [size_setCell]; omega)⟩, by simp⟩
        · obtain ⟨g1, ⟨ga, gc, g2, g5⟩, g3⟩ := hf j (by omega)
          refine ⟨?_, ⟨ga, gc, ?_, (((g5.stays hb1).keep fun b hb _ _ => hs b hb)).wide (Nat.le_refl _) (by simp only [size_setCell]; exact hb1.size)⟩, ?_⟩
          · rw [if_neg (by omega), if_neg (by omega), if_neg (by omega)]; exact g1
          · rw [if_neg (by omega), if_neg (by omega), if_neg (by omega)]; exact g2
          · rw [if_neg (by omega), if_neg (by omega), if_neg (by omega)]; exact g3
      case measure => simp [intOf]; omega
    · have hkl : k = l.length := by omega
      go_wp2
      go_ret
      refine ⟨_, _, rfl, ⟨_, _, rfl, hm, fun hp => ⟨_, _, rfl, Nat.le_refl _, hrow.lt, fun i hi => ?_⟩⟩, hb⟩
      have h1 := hrow.cell (show i * 3 < l.length * 3 by omega)
      have h2 := hrow.cell (show i * 3 + 1 < l.length * 3 by omega)
      have h3 := hrow.cell (show i * 3 + 1 + 1 < l.length * 3 by omega)
      obtain ⟨g1, ⟨ga, gc, g2, g5⟩, g3⟩ := hf i (by omega)
      rw [g1] at h1
      rw [g2] at h2
      rw [g3] at h3
      exact ⟨by simpa using h1, ⟨ga, gc, by simpa using h2, g5.wide (by omega) (Nat.le_refl _)⟩, by simpa using h3⟩

theorem toSet_any (v u : Value) (l : List Nd) (p : List Pr) (w : World) {lo hi : Nat} (h : SetAt lo hi w v u l p) (hn : SmallN l) (hp : SmallP p) :
    Calls Try.prog 7 #[.agg #[v, u]] w fun e w' => ∃ a c b d, e = .returned (.agg #[.slice a l.length c, .slice b p.length d]) ∧ SetAt w.heap.size w'.heap.size w' (.slice a l.length c) (.slice b p.length d) l p ∧ Below w.heap.size w w' := by
  obtain ⟨a, c, b, d, rfl, rfl⟩ := h.forms
  go_enter Try.func7, Try.ntmps7
  go_wp2_with fail
  refine Calls.mono (toNodeS_any _ l _ (h.1.stays ?hbx) hn) ?_
  case hbx => go_grown
  rintro e w2 ⟨a', c', rfl, hv, hb2⟩
  obtain ⟨hc2, hf2⟩ := bcell hb2
  have hz2 : w.heap.size + 1 + 1 < w2.heap.size := by have := hb2.size; simp at this; omega
  have hz2a : w.heap.size < w2.heap.size := by omega
  have b2 : Below w.heap.size w w2 := Below.trans (by go_grown) (hb2.mono (by simp; omega))
  replace hv : NodesAt (w.heap.size + 3) w2.heap.size w2 (.slice a' l.length c') l := hv.wide (by simp) (Nat.le_refl _)
  go_wp2_with fail
  have b3 : Below w.heap.size w (w2.setCell ⟨w.heap.size + 1 + 1, 0, none⟩ (.slice a' l.length c')) := b2.setCell (by simp; omega) _
  replace hv : NodesAt (w.heap.size + 3) w2.heap.size (w2.setCell ⟨w.heap.size + 1 + 1, 0, none⟩ (.slice a' l.length c')) (.slice a' l.length c') l := hv.keep fun b hb _ _ => by rw [Below.heap_setCell _ _ _ _ (by simp; omega)]
  refine Calls.mono (toProcS_any _ p _ (h.2.stays b3) hp) ?_
  rintro e w4 ⟨a4, c4, rfl, hv4, hb4⟩
  obtain ⟨hc4, hf4⟩ := bcell hb4
  have hz4 : w2.heap.size ≤ w4.heap.size := by have := hb4.size; simpa using this
  have hz4a : w.heap.size + 1 + 1 < w4.heap.size := by omega
  have hz1 : w.heap.size + 1 < w2.heap.size := by omega
  have hv' := hv.stays hb4
  have b4 := b3.trans (hb4.mono b3.size)
  replace hv4 : ProcsAt (w.heap.size + 3) w4.heap.size w4 (.slice a4 p.length c4) p := hv4.wide (by simp; omega) (Nat.le_refl _)
  clear hv hb4 hb2
  go_wp2
  refine bodyPost_ret (v := .agg #[.slice a' l.length c', .slice a4 p.length c4]) (by simp [results, Try.results7, go_sem, hc4, hc2, hz1]) rfl ⟨_, _, _, _, rfl, ⟨?_, ?_⟩, ?_⟩
  · refine (hv'.keep fun b hb _ _ => ?_).wide (by omega) (by simp only [size_setCell]; omega)
    repeat rw [Below.heap_setCell _ _ _ _ (by simp; omega)]
  · refine (hv4.keep fun b hb _ _ => ?_).wide (by omega) (by simp only [size_setCell]; omega)
    repeat rw [Below.heap_setCell _ _ _ _ (by simp; omega)]
  · go_grown

end Go.Proofs.Ytjikmpdgednlaaa
