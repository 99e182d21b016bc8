/- Frames: toFrameS, szFrameS, eqFrameS; the reading of an argument. -/
import Derived.Test.YtjikmpdgednlaaaData
import Derived.Test.YtjikmpdgednlaaaOpen0
import Derived.Test.YtjikmpdgednlaaaTData
import Derived.Test.YtjikmpdgednlaaaRowOf
import Derived.Test.YtjikmpdgednlaaaRegLast
import Derived.Outline
import Derived.Handy
import Derived.Deep.RegionHeld3
import Derived.Deep.DrawnRows
import Derived.ChangeMaps5
namespace Go.Proofs.Ytjikmpdgednlaaa
open Go.ChangeShapes Go.WideShapes Go.ChangeAt Go.RowKit Go.Deep Go.Joins
set_option linter.unusedVariables false
set_option maxRecDepth 100000
attribute [local go_sem ↓] Go.wp_at_zero Go.wp_at_succ

theorem toFrame_any (s n : Int) (w : World) :
    Calls Try.prog 42 #[.agg #[.int .i64 s, .int .i64 n]] w fun e w' => e = .returned (.agg #[.int .i64 s, .int .i64 n]) ∧ Below w.heap.size w w' := by
  go_enter Try.func42, Try.ntmps42
  go_wp2
  refine bodyPost_ret (v := .agg #[.int .i64 s, .int .i64 n]) (by simp [results, Try.results42, go_sem]) rfl ⟨rfl, ?_⟩
  go_grown

theorem infoFrame : (Try.prog.info? 77).map (fun i => (i.zero, i.size, i.bytes)) = some (some (.agg #[.int .i64 0, .int .i64 0]), 2, 16) := by kernel_rfl
theorem make_frames (n : Nat) (hn : n ≤ 1048576) (w : World) :
    (Instr.makeSlice 39 (.int .i64 (n : Int)) (.int .i64 (n : Int))).run Try.prog w = .ok (.slice (some ⟨w.heap.size, 0, none⟩) n n) (w.alloc (.cells (madeCells #[.int .i64 0, .int .i64 0] (n * 2)) 77)) := by
  obtain ⟨i, hi, hz0, hz1, hz2⟩ := info_parts infoFrame
  have hr := run_make (P := Try.prog) w 39 77 i _ Try.underlying39 hi hz0 .i64 .i64 n n (by omega) (Int.le_refl _) (by rw [hz2]; omega) (by omega)
  simpa [hz1, Value.cells] using hr

/-- Numbers that are numbers. -/
def WfFr (l : List Vr) : Prop := ∀ i, i < l.length → wf (vAt l i).1 ∧ wf (vAt l i).2
/-- Block b is a row of at least these frames, free to be written. -/
def OwnFr (w : World) (b : Nat) (l : List Vr) : Prop := ∃ f : Nat → Value, RowOf w b 77 (l.length * 2) f ∧ ∀ i, i < l.length → f (i * 2) = .int .i64 (vAt l i).1 ∧ f (i * 2 + 1) = .int .i64 (vAt l i).2
theorem OwnFr.stays {w w' : World} {b : Nat} {l : List Vr} (h : OwnFr w b l) (hb : Below w.heap.size w w') : OwnFr w' b l := by
  obtain ⟨f, h1, h2⟩ := h
  exact ⟨f, h1.of_block (hb.block _ h1.lt), h2⟩
theorem OwnFr.keep {w w' : World} {b : Nat} {l : List Vr} (h : OwnFr w b l) (e : w'.heap[b]? = w.heap[b]?) : OwnFr w' b l := by
  obtain ⟨f, h1, h2⟩ := h
  exact ⟨f, h1.of_block e, h2⟩
theorem OwnFr.at {w : World} {b : Nat} {l : List Vr} (h : OwnFr w b l) (hn : l.length ≤ 1048576) (cap : Nat) : VersAt b (b + 1) w (.slice (some ⟨b, 0, none⟩) l.length cap) l := by
  obtain ⟨f, h1, h2⟩ := h
  refine ⟨_, _, rfl, by unfold maxLen; omega, fun _ => ⟨b, 0, rfl, Nat.le_refl _, by omega, fun i hi => ?_⟩⟩
  obtain ⟨e0, e1⟩ := h2 i hi
  have c0 := h1.cell (show i * 2 < l.length * 2 by omega)
  have c1 := h1.cell (show i * 2 + 1 < l.length * 2 by omega)
  rw [e0] at c0; rw [e1] at c1
  simpa using ⟨c0, c1⟩
theorem OwnFr.lt {w : World} {b : Nat} {l : List Vr} (h : OwnFr w b l) : b < w.heap.size := by obtain ⟨f, h1, _⟩ := h; exact h1.lt

theorem toFrameS_own (v : Value) (l : List Vr) (w : World) {lo hi : Nat} (h : VersAt lo hi w v l) (hn : l.length ≤ 1048576) :
    Calls Try.prog 22 #[v] w fun e w' => e = .returned (.slice (some ⟨w.heap.size, 0, none⟩) l.length l.length) ∧ OwnFr w' w.heap.size l ∧ Below w.heap.size w w' := by
  obtain ⟨a, cap, rfl, hm, hc⟩ := h
  have hmk := make_frames l.length hn
  go_enter Try.func22, Try.ntmps22
  go_wp2
  go_loopw [4] (fun i wr => ∃ (k : Nat) (f : Nat → Value), k ≤ l.length ∧ i = .int .i64 k ∧ Below w.heap.size w wr ∧ wr.rowIs w.heap.size 77 (l.length * 2) f ∧
      ∀ j, j < k → f (j * 2) = .int .i64 (vAt l j).1 ∧ f (j * 2 + 1) = .int .i64 (vAt l j).2) (fun i _ => l.length - (intOf i).toNat)
  case atStart =>
    exact ⟨0, _, Nat.zero_le _, rfl, (Below.refl _ _).alloc (Nat.le_refl _) _, ⟨_, Deep.blk_alloc_new _ _, size_madeCells _ _, fun i hi => by simp [madeCells, hi]; rfl⟩, fun j hj => absurd hj (Nat.not_lt_zero _)⟩
  case round =>
    obtain ⟨k, f, hk, rfl, hb, hrow, hf⟩ := hrel
    by_cases hlt : k < l.length
    · obtain ⟨b, off, rfl, hlo, hhi, hcc⟩ := hc (by omega)
      obtain ⟨c0, c1⟩ := hcc k hlt
      replace c0 := cell_stays hb c0
      replace c1 := cell_stays hb c1
      clear hcc hc
      go_wp2_with (go_at_call 42; refine (toFrame_any _ _ _).mono ?_; rintro e w1 ⟨rfl, hb1⟩; have r1 := hrow.of_block (hb1.block _ hrow.lt); have z0 := r1.cell (show k * 2 < l.length * 2 by omega); have z1 := r1.frozen (k * 2); have z2 := r1.cell (show k * 2 + 1 < l.length * 2 by omega); have z3 := r1.frozen (k * 2 + 1))
      go_roundw
      case rel =>
        refine ⟨k + 1, _, by omega, by go_num, ((hb.trans (hb1.mono hb.size)).setCell (Nat.le_refl _) _).setCell (Nat.le_refl _) _, (r1.set _ _).set _ _, fun j hj => ?_⟩
        by_cases e : j = k
        · subst e; simp
        · obtain ⟨g1, g2⟩ := hf j (by omega)
          refine ⟨?_, ?_⟩
          · rw [if_neg (by omega), if_neg (by omega)]; exact g1
          · rw [if_neg (by omega), if_neg (by omega)]; exact g2
      case measure => simp [intOf]; omega
    · have hkl : k = l.length := by omega
      go_wp2
      go_ret
      exact ⟨rfl, ⟨f, RowOf.of_rowIs hrow, fun i hi => hf i (by omega)⟩, hb⟩

theorem szFrameS_any (v : Value) (l : List Vr) (w : World) {lo hi : Nat} (h : VersAt lo hi w v l) (left : Int) (h0 : 0 ≤ left) (h1 : left ≤ 1048576) :
    Calls Try.prog 15 #[v, .int .i64 left] w fun e w' => ∃ q, e = .returned (.int .i64 q) ∧ q ≤ left ∧ (0 ≤ q → l.length ≤ 1048576) ∧ w' = w := by
  obtain ⟨a, cap, rfl, hm, hc⟩ := h
  unfold maxLen at hm
  by_cases hlt : left - l.length < 0
  · go_enter Try.func15, Try.ntmps15
    go_wp2
    go_ret
    exact ⟨_, rfl, by omega, by omega, rfl⟩
  · go_enter Try.func15, Try.ntmps15
    go_wp2
    go_ret
    exact ⟨_, rfl, by omega, fun _ => by omega, rfl⟩

theorem eqFrame_same (s n : Int) (w : World) :
    Calls Try.prog 51 #[.agg #[.int .i64 s, .int .i64 n], .agg #[.int .i64 s, .int .i64 n]] w fun e w' => e = .returned (.bool true) ∧ Below w.heap.size w w' := by
  go_enter Try.func51, Try.ntmps51
  go_wp2
  go_ret
  exact ⟨rfl, ((Below.refl _ _).alloc (Nat.le_refl _) _).alloc (by simp) _⟩

theorem eqFrameS_same (v v' : Value) (l : List Vr) (w : World) {lo hi lo' hi' : Nat} (h : VersAt lo hi w v l) (h' : VersAt lo' hi' w v' l) :
    Calls Try.prog 30 #[v, v'] w fun e w' => e = .returned (.bool true) ∧ Below w.heap.size w w' := by
  obtain ⟨a, cap, rfl, hm, hc⟩ := h
  obtain ⟨a', cap', rfl, _, hc'⟩ := h'
  unfold maxLen at hm
  go_enter Try.func30, Try.ntmps30
  go_wp2
  go_loopw [5] (fun i wr => ∃ k : Nat, k ≤ l.length ∧ i = .int .i64 k ∧ Below w.heap.size w wr) (fun i _ => l.length - (intOf i).toNat)
  case atStart => exact ⟨0, Nat.zero_le _, rfl, Below.refl _ _⟩
  case round =>
    obtain ⟨k, hk, rfl, hb⟩ := hrel
    by_cases hlt : k < l.length
    · obtain ⟨b, off, rfl, _, _, hcc⟩ := hc (by omega)
      obtain ⟨b', off', rfl, _, _, hcc'⟩ := hc' (by omega)
      obtain ⟨c0, c1⟩ := hcc k hlt
      obtain ⟨d0, d1⟩ := hcc' k hlt
      replace c0 := cell_stays hb c0
      replace c1 := cell_stays hb c1
      replace d0 := cell_stays hb d0
      replace d1 := cell_stays hb d1
      have i0 : (0 : Int) ≤ (k : Int) := by omega
      have i1 : (k : Int) < (l.length : Int) := by omega
      clear hcc hc hcc' hc'
      go_wp2_with fail
      go_region_held3 (fun x => Below w.heap.size w x ∧ x.cell? ⟨b, off + k * 2, none⟩ = some (.int .i64 (vAt l k).1) ∧ x.cell? ⟨b, off + k * 2 + 1, none⟩ = some (.int .i64 (vAt l k).2) ∧ x.cell? ⟨b', off' + k * 2, none⟩ = some (.int .i64 (vAt l k).1) ∧ x.cell? ⟨b', off' + k * 2 + 1, none⟩ = some (.int .i64 (vAt l k).2))
        (first | exact four_kept (by assumption) hb1 | exact ⟨hb.drew, c0, c1, d0, d1⟩)
        (first | (go_at_call 51; refine (eqFrame_same _ _ _).mono ?_; rintro e w1 ⟨rfl, hb1⟩))
      rename_i hH
      go_wp2
      go_roundw
      case rel => exact ⟨k + 1, by omega, by go_num, hH.1⟩
      case measure => simp [intOf]; omega
    · go_wp2
      go_ret
      exact ⟨rfl, hb⟩

section
variable {H : Type} {enc : TypeId × Value → H} {W : World}
theorem open_frames {fuel : Nat} {cs : List Value} {x : DataW H × List MemPlace} (h : DataW.trod enc Try.prog W 0 (fun _ => true) true fuel 27 cs = some x) :
    ∃ a n cap l, cs = [.slice a n cap] ∧ n = l.length ∧ VersAt 0 W.heap.size W (.slice a n cap) l ∧ WfFr l := by
  have hce : Try.prog.cellsOf 83 = 2 := by kernel_rfl
  have hci : Try.prog.cellsOf 3 = 1 := by kernel_rfl
  rcases open_slice Try.underlying27 h with ⟨rfl, _⟩ | ⟨a, len, cap, m, n, D, Pl, rfl, _, hl, hm, hmm, _, hx⟩
  · exact ⟨none, 0, 0, [], rfl, rfl, ⟨none, 0, rfl, Nat.zero_le _, fun h => absurd h (Nat.lt_irrefl _)⟩, fun i hi => absurd hi (Nat.not_lt_zero _)⟩
  · obtain rfl : m = cap := by simpa using hmm
    have inh : Inhabited Vr := ⟨vr0⟩
    obtain ⟨f, hf⟩ := choose_lt (α := Vr) (n := len) (p := fun i q => W.cell? (a.add (i * 2)) = some (.int .i64 q.1) ∧ W.cell? (a.add (i * 2 + 1)) = some (.int .i64 q.2) ∧ wf q.1 ∧ wf q.2) (fun i hi => by
      obtain ⟨cs', h1, h2⟩ := hx i (by omega)
      rw [hce] at h1
      obtain ⟨_, hlen, hcell⟩ := World.cells?_some h1
      obtain ⟨y0, y1, n, _, _, h0, h1⟩ := trod_struct2 Try.underlying83 h2
      match cs', hlen with
      | [v0, v1], _ =>
        simp only [hci] at h0 h1
        obtain ⟨n0, e0', _, w0⟩ := DataW.trod_int Try.underlying3 h0
        obtain ⟨n1, e1', _, w1⟩ := DataW.trod_int Try.underlying3 h1
        simp at e0' e1'
        have e0 := hcell 0 (by omega)
        have e1 := hcell 1 (by omega)
        rw [add_add] at e0 e1
        refine ⟨⟨n0, n1⟩, ?_, ?_, w0, w1⟩
        · simpa [e0'] using e0
        · simpa [e1'] using e1)
    refine ⟨some a, len, m, (List.range len).map f, rfl, by simp, ⟨some a, m, by simp, by simp; omega, fun hp => ?_⟩, fun i hi => by
      have hi' : i < len := by simpa using hi
      have e : vAt ((List.range len).map f) i = f i := by simp [vAt, hi']
      obtain ⟨_, _, g, g'⟩ := hf i hi'
      rw [e]; exact ⟨g, g'⟩⟩
    have hlen : 0 < len := by simpa using hp
    have ha := spot_plain (by simpa using (hf 0 (by omega)).1)
    refine ⟨a.block, a.off, by rw [← ha], Nat.zero_le _, cell_lt (hf 0 (by omega)).1 |> fun h => by simpa [Addr.add] using h, fun i hi => ?_⟩
    have hi' : i < len := by simpa using hi
    obtain ⟨g0, g1, _⟩ := hf i hi'
    have e : vAt ((List.range len).map f) i = f i := by simp [vAt, hi']
    rw [add_plain g0] at g0
    rw [add_plain g1] at g1
    rw [e]
    exact ⟨g0, by simpa [Nat.add_assoc] using g1⟩
end
end Go.Proofs.Ytjikmpdgednlaaa
