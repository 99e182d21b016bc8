import Derived.WalkKit
import Derived.ProofKit
import Derived.OpenShut
import Derived.Below
import Derived.Deep.OwnRows
import Derived.Deep.Slices
import Derived.Deep.Modes
import Derived.Test.YtmecbppblbmchaaGreatDoorRows
import Derived.Outline
import Derived.Deep.RegionHeld3
import Derived.Deep.DrawnRows
/- The plain data of stores: what it means that a slice in memory holds versions, chains and rows; and that such a reading lasts while nothing old is turned. -/
namespace Go.Proofs.YtmecbppblbmchaaGreatDoor
open Go.RowKit

abbrev Vr := Int × Int
structure Ch where
  t : Int
  r : Int
  l : List Vr

def vr0 : Vr := (0, 0)
def ch0 : Ch := ⟨0, 0, []⟩

def vAt (l : List Vr) (i : Nat) : Vr := l.getD i vr0
def cAt (l : List Ch) (i : Nat) : Ch := l.getD i ch0

abbrev wf (n : Int) : Prop := (Lit.int .i64 n).wf = true
def WfCh (l : List Ch) : Prop := ∀ i, i < l.length → wf (cAt l i).t ∧ wf (cAt l i).r

/-- The slice v holds the versions l, in blocks from lo on and ahead of hi. -/
def VersAt (lo hi : Nat) (w : World) (v : Value) (l : List Vr) : Prop :=
  ∃ a cap, v = .slice a l.length cap ∧ l.length ≤ maxLen ∧ (0 < l.length → ∃ b off, a = some ⟨b, off, none⟩ ∧ lo ≤ b ∧ b < hi ∧
    ∀ i, i < l.length → w.cell? ⟨b, off + i * 2, none⟩ = some (.int .i64 (vAt l i).1) ∧ w.cell? ⟨b, off + i * 2 + 1, none⟩ = some (.int .i64 (vAt l i).2))

/-- The slice v holds the chains l, in blocks from lo on and ahead of hi. -/
def ChainsAt (lo hi : Nat) (w : World) (v : Value) (l : List Ch) : Prop :=
  ∃ a cap, v = .slice a l.length cap ∧ l.length ≤ maxLen ∧ (0 < l.length → ∃ b off, a = some ⟨b, off, none⟩ ∧ lo ≤ b ∧ b < hi ∧
    ∀ i, i < l.length → w.cell? ⟨b, off + i * 3, none⟩ = some (.int .i64 (cAt l i).t) ∧ w.cell? ⟨b, off + i * 3 + 1, none⟩ = some (.int .i64 (cAt l i).r) ∧
      ∃ a c, w.cell? ⟨b, off + i * 3 + 1 + 1, none⟩ = some (.slice a (cAt l i).l.length c) ∧ VersAt lo hi w (.slice a (cAt l i).l.length c) (cAt l i).l)

theorem cell_lt {w : World} {a : Addr} {v : Value} (h : w.cell? a = some v) : a.block < w.heap.size := by
  unfold World.cell? at h
  rcases hb : w.heap[a.block]? with _ | o
  · simp [hb] at h
  · exact (Array.getElem?_eq_some_iff.1 hb).1

theorem cell_stays {w w' : World} (hb : Below w.heap.size w w') {a : Addr} {v : Value} (h : w.cell? a = some v) : w'.cell? a = some v := by
  rw [hb.cell (cell_lt h)]; exact h

theorem bcell {W w1 : World} (hb : Below W.heap.size W w1) : (∀ b o, b < W.heap.size → w1.cell? ⟨b, o, none⟩ = W.cell? ⟨b, o, none⟩) ∧ (∀ b o, b < W.heap.size → w1.frozen? ⟨b, o, none⟩ = W.frozen? ⟨b, o, none⟩) :=
  ⟨fun b o h => hb.cell (p := ⟨b, o, none⟩) h, fun b o h => hb.frozen (p := ⟨b, o, none⟩) h⟩

theorem cell_same {w w' : World} {b o : Nat} (h : w'.heap[b]? = w.heap[b]?) {v : Value} (hc : w.cell? ⟨b, o, none⟩ = some v) : w'.cell? ⟨b, o, none⟩ = some v := by
  rw [World.cell?_of_block (w := w) (a := ⟨b, o, none⟩) h]; exact hc

theorem VersAt.keep {lo hi : Nat} {w w' : World} {v : Value} {l : List Vr} (h : VersAt lo hi w v l) (hs : ∀ b, lo ≤ b → b < hi → b < w.heap.size → w'.heap[b]? = w.heap[b]?) : VersAt lo hi w' v l := by
  obtain ⟨a, cap, h1, h2, h3⟩ := h
  refine ⟨a, cap, h1, h2, fun hp => ?_⟩
  obtain ⟨b, off, ha, hl, hh, hc⟩ := h3 hp
  exact ⟨b, off, ha, hl, hh, fun i hi => ⟨cell_same (hs b hl hh (cell_lt (hc i hi).1)) (hc i hi).1, cell_same (hs b hl hh (cell_lt (hc i hi).1)) (hc i hi).2⟩⟩

theorem VersAt.stays {lo hi : Nat} {w w' : World} {v : Value} {l : List Vr} (h : VersAt lo hi w v l) (hb : Below w.heap.size w w') : VersAt lo hi w' v l :=
  h.keep fun b _ _ hlt => hb.block b hlt

theorem VersAt.wide {lo hi lo' hi' : Nat} {w : World} {v : Value} {l : List Vr} (h : VersAt lo hi w v l) (hl : lo' ≤ lo) (hh : hi ≤ hi') : VersAt lo' hi' w v l := by
  obtain ⟨a, cap, h1, h2, h3⟩ := h
  refine ⟨a, cap, h1, h2, fun hp => ?_⟩
  obtain ⟨b, off, ha, hl', hh', hc⟩ := h3 hp
  exact ⟨b, off, ha, by omega, by omega, hc⟩

theorem ChainsAt.keep {lo hi : Nat} {w w' : World} {v : Value} {l : List Ch} (h : ChainsAt lo hi w v l) (hs : ∀ b, lo ≤ b → b < hi → b < w.heap.size → w'.heap[b]? = w.heap[b]?) : ChainsAt lo hi w' v l := by
  obtain ⟨a, cap, h1, h2, h3⟩ := h
  refine ⟨a, cap, h1, h2, fun hp => ?_⟩
  obtain ⟨b, off, ha, hl, hh, hc⟩ := h3 hp
  refine ⟨b, off, ha, hl, hh, fun i hi => ?_⟩
  obtain ⟨c1, c2, a', c', c3, c4⟩ := hc i hi
  have e := hs b hl hh (cell_lt c1)
  exact ⟨cell_same e c1, cell_same e c2, a', c', cell_same e c3, c4.keep hs⟩

theorem ChainsAt.stays {lo hi : Nat} {w w' : World} {v : Value} {l : List Ch} (h : ChainsAt lo hi w v l) (hb : Below w.heap.size w w') : ChainsAt lo hi w' v l :=
  h.keep fun b _ _ hlt => hb.block b hlt

theorem ChainsAt.wide {lo hi lo' hi' : Nat} {w : World} {v : Value} {l : List Ch} (h : ChainsAt lo hi w v l) (hl : lo' ≤ lo) (hh : hi ≤ hi') : ChainsAt lo' hi' w v l := by
  obtain ⟨a, cap, h1, h2, h3⟩ := h
  refine ⟨a, cap, h1, h2, fun hp => ?_⟩
  obtain ⟨b, off, ha, hl', hh', hc⟩ := h3 hp
  refine ⟨b, off, ha, by omega, by omega, fun i hi => ?_⟩
  obtain ⟨c1, c2, a', c', c3, c4⟩ := hc i hi
  exact ⟨c1, c2, a', c', c3, c4.wide hl hh⟩

theorem four_kept {w x y : World} {a1 a2 a3 a4 : Addr} {v1 v2 v3 v4 : Value} (h : Below w.heap.size w x ∧ x.cell? a1 = some v1 ∧ x.cell? a2 = some v2 ∧ x.cell? a3 = some v3 ∧ x.cell? a4 = some v4) (hb : Below x.heap.size x y) :
    Below w.heap.size w y ∧ y.cell? a1 = some v1 ∧ y.cell? a2 = some v2 ∧ y.cell? a3 = some v3 ∧ y.cell? a4 = some v4 :=
  ⟨h.1.trans (hb.mono h.1.size), cell_stays hb h.2.1, cell_stays hb h.2.2.1, cell_stays hb h.2.2.2.1, cell_stays hb h.2.2.2.2⟩

theorem six_kept {w x y : World} {a1 a2 a3 a4 a5 a6 : Addr} {v1 v2 v3 v4 v5 v6 : Value} (h : Below w.heap.size w x ∧ x.cell? a1 = some v1 ∧ x.cell? a2 = some v2 ∧ x.cell? a3 = some v3 ∧ x.cell? a4 = some v4 ∧ x.cell? a5 = some v5 ∧ x.cell? a6 = some v6) (hb : Below x.heap.size x y) :
    Below w.heap.size w y ∧ y.cell? a1 = some v1 ∧ y.cell? a2 = some v2 ∧ y.cell? a3 = some v3 ∧ y.cell? a4 = some v4 ∧ y.cell? a5 = some v5 ∧ y.cell? a6 = some v6 :=
  ⟨h.1.trans (hb.mono h.1.size), cell_stays hb h.2.1, cell_stays hb h.2.2.1, cell_stays hb h.2.2.2.1, cell_stays hb h.2.2.2.2.1, cell_stays hb h.2.2.2.2.2.1, cell_stays hb h.2.2.2.2.2.2⟩

theorem five_kept {w x y : World} {a1 a2 a3 a4 a5 : Addr} {v1 v2 v3 v4 v5 : Value} (h : Below w.heap.size w x ∧ x.cell? a1 = some v1 ∧ x.cell? a2 = some v2 ∧ x.cell? a3 = some v3 ∧ x.cell? a4 = some v4 ∧ x.cell? a5 = some v5) (hb : Below x.heap.size x y) :
    Below w.heap.size w y ∧ y.cell? a1 = some v1 ∧ y.cell? a2 = some v2 ∧ y.cell? a3 = some v3 ∧ y.cell? a4 = some v4 ∧ y.cell? a5 = some v5 :=
  ⟨h.1.trans (hb.mono h.1.size), cell_stays hb h.2.1, cell_stays hb h.2.2.1, cell_stays hb h.2.2.2.1, cell_stays hb h.2.2.2.2.1, cell_stays hb h.2.2.2.2.2⟩

theorem size_setCell (w : World) (a : Addr) (v : Value) : (w.setCell a v).heap.size = w.heap.size := by simp [World.setCell]

end Go.Proofs.YtmecbppblbmchaaGreatDoor

/- Lists of versions and chains, made; lists of bounded length. -/
namespace Go.Proofs.YtmecbppblbmchaaGreatDoor
open Go.ChangeShapes Go.WideShapes Go.ChangeAt Go.RowKit
set_option linter.unusedVariables false
set_option maxRecDepth 100000
attribute [local go_sem ↓] Go.wp_at_zero Go.wp_at_succ

theorem infoVer : (Tryz.prog.info? 123).map (fun i => (i.zero, i.size, i.bytes)) = some (some (.agg #[.int .i64 0, .int .i64 0]), 2, 16) := by kernel_rfl

theorem make_vers (n : Nat) (hn : n ≤ 1048576) (w : World) :
    (Instr.makeSlice 92 (.int .i64 (n : Int)) (.int .i64 (n : Int))).run Tryz.prog w = .ok (.slice (some ⟨w.heap.size, 0, none⟩) n n) (w.alloc (.cells (madeCells #[.int .i64 0, .int .i64 0] (n * 2)) 123)) := by
  obtain ⟨i, hi, hz0, hz1, hz2⟩ := info_parts infoVer
  have hr := run_make (P := Tryz.prog) w 92 123 i _ Tryz.underlying92 hi hz0 .i64 .i64 n n (by omega) (Int.le_refl _) (by rw [hz2]; omega) (by omega)
  simpa [hz1, Value.cells] using hr

theorem infoChain : (Tryz.prog.info? 94).map (fun i => (i.zero, i.size, i.bytes)) = some (some (.agg #[.int .i64 0, .int .i64 0, .slice none 0 0]), 3, 40) := by kernel_rfl

theorem make_chains (n : Nat) (hn : n ≤ 1048576) (w : World) :
    (Instr.makeSlice 30 (.int .i64 (n : Int)) (.int .i64 (n : Int))).run Tryz.prog w = .ok (.slice (some ⟨w.heap.size, 0, none⟩) n n) (w.alloc (.cells (madeCells #[.int .i64 0, .int .i64 0, .slice none 0 0] (n * 3)) 94)) := by
  obtain ⟨i, hi, hz0, hz1, hz2⟩ := info_parts infoChain
  have hr := run_make (P := Tryz.prog) w 30 94 i _ Tryz.underlying30 hi hz0 .i64 .i64 n n (by omega) (Int.le_refl _) (by rw [hz2]; omega) (by omega)
  simpa [hz1, Value.cells] using hr

/-- All lists are of bounded length. -/
def Small (cs : List Ch) : Prop := cs.length ≤ 1048576 ∧ ∀ i, i < cs.length → (cAt cs i).l.length ≤ 1048576

end Go.Proofs.YtmecbppblbmchaaGreatDoor
