import Derived.WalkKit
import Derived.ProofKit
import Derived.OpenShut
import Derived.Below
import Derived.Deep.OwnRows
import Derived.Deep.Slices
import Derived.Deep.Modes
import Derived.Outline
import Derived.Test.YtmecbppblbmchaaGreatDoorRows
import Derived.Deep.RegionHeld3
import Derived.Deep.DrawnRows
import Derived.Deep.QuietTactic
import Derived.BigQuiet
import Derived.Lib.QuietBelow
/- The plain data of stores: what it means that a slice in memory holds versions, chains and rows; and that such a reading lasts while nothing old is turned. -/
namespace Go.Proofs.YtmecbppblbmchaaGreatDoor
open Go.RowKit

abbrev Vr := Int × Int
structure Ch where
  t : Int
  r : Int
  l : List Vr

def vr0 : Vr := (0, 0)
def ch0 : Ch := ⟨0, 0, []⟩

def vAt (l : List Vr) (i : Nat) : Vr := l.getD i vr0
def cAt (l : List Ch) (i : Nat) : Ch := l.getD i ch0

abbrev wf (n : Int) : Prop := (Lit.int .i64 n).wf = true
def WfCh (l : List Ch) : Prop := ∀ i, i < l.length → wf (cAt l i).t ∧ wf (cAt l i).r

/-- The slice v holds the versions l, in blocks from lo on and ahead of hi. -/
def VersAt (lo hi : Nat) (w : World) (v : Value) (l : List Vr) : Prop :=
  ∃ a cap, v = .slice a l.length cap ∧ l.length ≤ maxLen ∧ (0 < l.length → ∃ b off, a = some ⟨b, off, none⟩ ∧ lo ≤ b ∧ b < hi ∧
    ∀ i, i < l.length → w.cell? ⟨b, off + i * 2, none⟩ = some (.int .i64 (vAt l i).1) ∧ w.cell? ⟨b, off + i * 2 + 1, none⟩ = some (.int .i64 (vAt l i).2))

/-- The slice v holds the chains l, in blocks from lo on and ahead of hi. -/
def ChainsAt (lo hi : Nat) (w : World) (v : Value) (l : List Ch) : Prop :=
  ∃ a cap, v = .slice a l.length cap ∧ l.length ≤ maxLen ∧ (0 < l.length → ∃ b off, a = some ⟨b, off, none⟩ ∧ lo ≤ b ∧ b < hi ∧
    ∀ i, i < l.length → w.cell? ⟨b, off + i * 3, none⟩ = some (.int .i64 (cAt l i).t) ∧ w.cell? ⟨b, off + i * 3 + 1, none⟩ = some (.int .i64 (cAt l i).r) ∧
      ∃ a c, w.cell? ⟨b, off + i * 3 + 1 + 1, none⟩ = some (.slice a (cAt l i).l.length c) ∧ VersAt lo hi w (.slice a (cAt l i).l.length c) (cAt l i).l)

theorem cell_lt {w : World} {a : Addr} {v : Value} (h : w.cell? a = some v) : a.block < w.heap.size := by
  unfold World.cell? at h
  rcases hb : w.heap[a.block]? with _ | o
  · simp [hb] at h
  · exact (Array.getElem?_eq_some_iff.1 hb).1

theorem cell_stays {w w' : World} (hb : Below w.heap.size w w') {a : Addr} {v : Value} (h : w.cell? a = some v) : w'.cell? a = some v := by
  rw [hb.cell (cell_lt h)]; exact h

theorem bcell {W w1 : World} (hb : Below W.heap.size W w1) : (∀ b o, b < W.heap.size → w1.cell? ⟨b, o, none⟩ = W.cell? ⟨b, o, none⟩) ∧ (∀ b o, b < W.heap.size → w1.frozen? ⟨b, o, none⟩ = W.frozen? ⟨b, o, none⟩) :=
  ⟨fun b o h => hb.cell (p := ⟨b, o, none⟩) h, fun b o h => hb.frozen (p := ⟨b, o, none⟩) h⟩

theorem cell_same {w w' : World} {b o : Nat} (h : w'.heap[b]? = w.heap[b]?) {v : Value} (hc : w.cell? ⟨b, o, none⟩ = some v) : w'.cell? ⟨b, o, none⟩ = some v := by
  rw [World.cell?_of_block (w := w) (a := ⟨b, o, none⟩) h]; exact hc

theorem VersAt.keep {lo hi : Nat} {w w' : World} {v : Value} {l : List Vr} (h : VersAt lo hi w v l) (hs : ∀ b, lo ≤ b → b < hi → b < w.heap.size → w'.heap[b]? = w.heap[b]?) : VersAt lo hi w' v l := by
  obtain ⟨a, cap, h1, h2, h3⟩ := h
  refine ⟨a, cap, h1, h2, fun hp => ?_⟩
  obtain ⟨b, off, ha, hl, hh, hc⟩ := h3 hp
  exact ⟨b, off, ha, hl, hh, fun i hi => ⟨cell_same (hs b hl hh (cell_lt (hc i hi).1)) (hc i hi).1, cell_same (hs b hl hh (cell_lt (hc i hi).1)) (hc i hi).2⟩⟩

theorem VersAt.stays {lo hi : Nat} {w w' : World} {v : Value} {l : List Vr} (h : VersAt lo hi w v l) (hb : Below w.heap.size w w') : VersAt lo hi w' v l :=
  h.keep fun b _ _ hlt => hb.block b hlt

theorem VersAt.wide {lo hi lo' hi' : Nat} {w : World} {v : Value} {l : List Vr} (h : VersAt lo hi w v l) (hl : lo' ≤ lo) (hh : hi ≤ hi') : VersAt lo' hi' w v l := by
  obtain ⟨a, cap, h1, h2, h3⟩ := h
  refine ⟨a, cap, h1, h2, fun hp => ?_⟩
  obtain ⟨b, off, ha, hl', hh', hc⟩ := h3 hp
  exact ⟨b, off, ha, by omega, by omega, hc⟩

theorem ChainsAt.keep {lo hi : Nat} {w w' : World} {v : Value} {l : List Ch} (h : ChainsAt lo hi w v l) (hs : ∀ b, lo ≤ b → b < hi → b < w.heap.size → w'.heap[b]? = w.heap[b]?) : ChainsAt lo hi w' v l := by
  obtain ⟨a, cap, h1, h2, h3⟩ := h
  refine ⟨a, cap, h1, h2, fun hp => ?_⟩
  obtain ⟨b, off, ha, hl, hh, hc⟩ := h3 hp
  refine ⟨b, off, ha, hl, hh, fun i hi => ?_⟩
  obtain ⟨c1, c2, a', c', c3, c4⟩ := hc i hi
  have e := hs b hl hh (cell_lt c1)
  exact ⟨cell_same e c1, cell_same e c2, a', c', cell_same e c3, c4.keep hs⟩

theorem ChainsAt.stays {lo hi : Nat} {w w' : World} {v : Value} {l : List Ch} (h : ChainsAt lo hi w v l) (hb : Below w.heap.size w w') : ChainsAt lo hi w' v l :=
  h.keep fun b _ _ hlt => hb.block b hlt

theorem ChainsAt.wide {lo hi lo' hi' : Nat} {w : World} {v : Value} {l : List Ch} (h : ChainsAt lo hi w v l) (hl : lo' ≤ lo) (hh : hi ≤ hi') : ChainsAt lo' hi' w v l := by
  obtain ⟨a, cap, h1, h2, h3⟩ := h
  refine ⟨a, cap, h1, h2, fun hp => ?_⟩
  obtain ⟨b, off, ha, hl', hh', hc⟩ := h3 hp
  refine ⟨b, off, ha, by omega, by omega, fun i hi => ?_⟩
  obtain ⟨c1, c2, a', c', c3, c4⟩ := hc i hi
  exact ⟨c1, c2, a', c', c3, c4.wide hl hh⟩

theorem four_kept {w x y : World} {a1 a2 a3 a4 : Addr} {v1 v2 v3 v4 : Value} (h : Below w.heap.size w x ∧ x.cell? a1 = some v1 ∧ x.cell? a2 = some v2 ∧ x.cell? a3 = some v3 ∧ x.cell? a4 = some v4) (hb : Below x.heap.size x y) :
    Below w.heap.size w y ∧ y.cell? a1 = some v1 ∧ y.cell? a2 = some v2 ∧ y.cell? a3 = some v3 ∧ y.cell? a4 = some v4 :=
  ⟨h.1.trans (hb.mono h.1.size), cell_stays hb h.2.1, cell_stays hb h.2.2.1, cell_stays hb h.2.2.2.1, cell_stays hb h.2.2.2.2⟩

theorem six_kept {w x y : World} {a1 a2 a3 a4 a5 a6 : Addr} {v1 v2 v3 v4 v5 v6 : Value} (h : Below w.heap.size w x ∧ x.cell? a1 = some v1 ∧ x.cell? a2 = some v2 ∧ x.cell? a3 = some v3 ∧ x.cell? a4 = some v4 ∧ x.cell? a5 = some v5 ∧ x.cell? a6 = some v6) (hb : Below x.heap.size x y) :
    Below w.heap.size w y ∧ y.cell? a1 = some v1 ∧ y.cell? a2 = some v2 ∧ y.cell? a3 = some v3 ∧ y.cell? a4 = some v4 ∧ y.cell? a5 = some v5 ∧ y.cell? a6 = some v6 :=
  ⟨h.1.trans (hb.mono h.1.size), cell_stays hb h.2.1, cell_stays hb h.2.2.1, cell_stays hb h.2.2.2.1, cell_stays hb h.2.2.2.2.1, cell_stays hb h.2.2.2.2.2.1, cell_stays hb h.2.2.2.2.2.2⟩

theorem five_kept {w x y : World} {a1 a2 a3 a4 a5 : Addr} {v1 v2 v3 v4 v5 : Value} (h : Below w.heap.size w x ∧ x.cell? a1 = some v1 ∧ x.cell? a2 = some v2 ∧ x.cell? a3 = some v3 ∧ x.cell? a4 = some v4 ∧ x.cell? a5 = some v5) (hb : Below x.heap.size x y) :
    Below w.heap.size w y ∧ y.cell? a1 = some v1 ∧ y.cell? a2 = some v2 ∧ y.cell? a3 = some v3 ∧ y.cell? a4 = some v4 ∧ y.cell? a5 = some v5 :=
  ⟨h.1.trans (hb.mono h.1.size), cell_stays hb h.2.1, cell_stays hb h.2.2.1, cell_stays hb h.2.2.2.1, cell_stays hb h.2.2.2.2.1, cell_stays hb h.2.2.2.2.2⟩

theorem size_setCell (w : World) (a : Addr) (v : Value) : (w.setCell a v).heap.size = w.heap.size := by simp [World.setCell]

end Go.Proofs.YtmecbppblbmchaaGreatDoor

/- The answer to a question. -/
namespace Go.Proofs.YtmecbppblbmchaaGreatDoor
open Go.ChangeShapes Go.WideShapes Go.ChangeAt Go.RowKit
set_option linter.unusedVariables false

/-- The ending is the answer to the question p. -/
def Says (e : Ending) (p : Prop) : Prop := ∃ q : Bool, e = .returned (.bool q) ∧ (q = true ↔ p)

theorem says_yes {p : Prop} (h : p) : Says (.returned (.bool true)) p := ⟨true, rfl, fun _ => h, fun _ => rfl⟩

theorem says_no {p : Prop} (h : ¬ p) : Says (.returned (.bool false)) p := ⟨false, rfl, fun h' => by simp at h', fun h' => absurd h' h⟩

theorem says_false {p : Prop} {q : Bool} (h : q = true ↔ p) (hp : ¬ p) : q = false := by
  cases q
  · rfl
  · exact absurd (h.1 rfl) hp

theorem upto_succ {p : Nat → Prop} {k : Nat} (h : ∀ j, j < k → p j) (hk : p k) : ∀ j, j < k + 1 → p j := fun j hj => by
  by_cases e : j = k
  · exact e ▸ hk
  · exact h j (by omega)

end Go.Proofs.YtmecbppblbmchaaGreatDoor

/- Tables and keys: what is ahead of what. -/
namespace Go.Proofs.YtmecbppblbmchaaGreatDoor
open Go.ChangeShapes Go.WideShapes Go.ChangeAt Go.RowKit Go.Sort
set_option linter.unusedVariables false
set_option maxRecDepth 100000
attribute [local go_sem ↓] Go.wp_at_zero Go.wp_at_succ

def tabB (t : Int) : Bool := decide (0 ≤ t ∧ t < 5)

def klB (a b c d : Int) : Bool := decide (a < c ∨ a = c ∧ b < d)

theorem tabB_iff (t : Int) : tabB t = true ↔ 0 ≤ t ∧ t < 5 := by simp [tabB]

theorem klB_iff (a b c d : Int) : klB a b c d = true ↔ (a < c ∨ a = c ∧ b < d) := by simp [klB]

theorem isTable_any (t : Int) (w : World) :
    Calls Tryz.prog 118 #[.int .i64 t] w fun e w' => e = .returned (.bool (tabB t)) ∧ w' = w := by
  by_cases h1 : 0 ≤ t
  · by_cases h2 : t < 5
    · go_enter Tryz.func118, Tryz.ntmps118
      go_wp2
      go_ret
      exact ⟨by simp [tabB, h1, h2], rfl⟩
    · go_enter Tryz.func118, Tryz.ntmps118
      go_wp2
      go_ret
      exact ⟨by simp [tabB, h1, h2], rfl⟩
  · go_enter Tryz.func118, Tryz.ntmps118
    go_wp2
    go_ret
    exact ⟨by simp [tabB]; omega, rfl⟩

theorem implKeyLess_any (a b c d : Int) (w : World) :
    Calls Tryz.prog 138 #[.agg #[.int .i64 a, .int .i64 b], .agg #[.int .i64 c, .int .i64 d]] w fun e w' => e = .returned (.bool (klB a b c d)) ∧ Below w.heap.size w w' := by
  have hb : Below w.heap.size w ((w.alloc (Obj.cells #[Value.int IntKind.i64 a, Value.int IntKind.i64 b] 46)).alloc (Obj.cells #[Value.int IntKind.i64 c, Value.int IntKind.i64 d] 46)) := (((Below.refl _ _).alloc (Nat.le_refl _) _).alloc (by simp) _)
  by_cases h1 : a < c
  · go_enter Tryz.func138, Tryz.ntmps138
    go_wp2
    go_ret
    exact ⟨by simp [klB, h1], hb⟩
  · by_cases h2 : a = c
    · subst h2
      by_cases h3 : b < d
      · go_enter Tryz.func138, Tryz.ntmps138
        go_wp2
        go_ret
        exact ⟨by simp [klB, h3], hb⟩
      · go_enter Tryz.func138, Tryz.ntmps138
        go_wp2
        go_ret
        exact ⟨by simp [klB, h3], hb⟩
    · go_enter Tryz.func138, Tryz.ntmps138
      go_wp2
      go_ret
      exact ⟨by simp [klB, h1, h2], hb⟩

theorem isTable_below (t : Int) (w : World) : Calls Tryz.prog 118 #[.int .i64 t] w fun e w' => e = .returned (.bool (tabB t)) ∧ Below w.heap.size w w' := by
  refine (isTable_any t w).mono ?_
  rintro e w' ⟨rfl, rfl⟩
  exact ⟨rfl, Below.refl _ _⟩

theorem klB_trans {a b c d e f : Int} (h1 : klB a b c d = true) (h2 : klB c d e f = true) : klB a b e f = true := by
  rw [klB_iff] at *; omega

end Go.Proofs.YtmecbppblbmchaaGreatDoor

/- Lists of versions and chains, made; lists of bounded length. -/
namespace Go.Proofs.YtmecbppblbmchaaGreatDoor
open Go.ChangeShapes Go.WideShapes Go.ChangeAt Go.RowKit
set_option linter.unusedVariables false
set_option maxRecDepth 100000
attribute [local go_sem ↓] Go.wp_at_zero Go.wp_at_succ

theorem infoVer : (Tryz.prog.info? 123).map (fun i => (i.zero, i.size, i.bytes)) = some (some (.agg #[.int .i64 0, .int .i64 0]), 2, 16) := by kernel_rfl

theorem make_vers (n : Nat) (hn : n ≤ 1048576) (w : World) :
    (Instr.makeSlice 92 (.int .i64 (n : Int)) (.int .i64 (n : Int))).run Tryz.prog w = .ok (.slice (some ⟨w.heap.size, 0, none⟩) n n) (w.alloc (.cells (madeCells #[.int .i64 0, .int .i64 0] (n * 2)) 123)) := by
  obtain ⟨i, hi, hz0, hz1, hz2⟩ := info_parts infoVer
  have hr := run_make (P := Tryz.prog) w 92 123 i _ Tryz.underlying92 hi hz0 .i64 .i64 n n (by omega) (Int.le_refl _) (by rw [hz2]; omega) (by omega)
  simpa [hz1, Value.cells] using hr

theorem infoChain : (Tryz.prog.info? 94).map (fun i => (i.zero, i.size, i.bytes)) = some (some (.agg #[.int .i64 0, .int .i64 0, .slice none 0 0]), 3, 40) := by kernel_rfl

theorem make_chains (n : Nat) (hn : n ≤ 1048576) (w : World) :
    (Instr.makeSlice 30 (.int .i64 (n : Int)) (.int .i64 (n : Int))).run Tryz.prog w = .ok (.slice (some ⟨w.heap.size, 0, none⟩) n n) (w.alloc (.cells (madeCells #[.int .i64 0, .int .i64 0, .slice none 0 0] (n * 3)) 94)) := by
  obtain ⟨i, hi, hz0, hz1, hz2⟩ := info_parts infoChain
  have hr := run_make (P := Tryz.prog) w 30 94 i _ Tryz.underlying30 hi hz0 .i64 .i64 n n (by omega) (Int.le_refl _) (by rw [hz2]; omega) (by omega)
  simpa [hz1, Value.cells] using hr

/-- All lists are of bounded length. -/
def Small (cs : List Ch) : Prop := cs.length ≤ 1048576 ∧ ∀ i, i < cs.length → (cAt cs i).l.length ≤ 1048576

end Go.Proofs.YtmecbppblbmchaaGreatDoor

/- Stores that a call owns: each list in a block of its own, free to be written. -/
namespace Go.Proofs.YtmecbppblbmchaaGreatDoor
open Go.ChangeShapes Go.WideShapes Go.ChangeAt Go.RowKit
set_option linter.unusedVariables false
set_option maxRecDepth 100000
attribute [local go_sem ↓] Go.wp_at_zero Go.wp_at_succ

/-- Block b is a row, free to be written, whose first m cells are f's. -/
def RowOf (w : World) (b : Nat) (T : TypeId) (m : Nat) (f : Nat → Value) : Prop := ∃ c : Array Value, w.heap[b]? = some (.cells c T (0, 0)) ∧ m ≤ c.size ∧ ∀ j, j < m → c[j]? = some (f j)

theorem RowOf.of_rowIs {w : World} {b : Nat} {T : TypeId} {m : Nat} {f : Nat → Value} (h : w.rowIs b T m f) : RowOf w b T m f := by
  obtain ⟨c, h1, h2, h3⟩ := h
  exact ⟨c, h1, by omega, h3⟩
theorem RowOf.cell {w : World} {b : Nat} {T : TypeId} {m : Nat} {f : Nat → Value} (h : RowOf w b T m f) {j : Nat} (hj : j < m) : w.cell? ⟨b, j, none⟩ = some (f j) := by
  obtain ⟨c, hb, _, hc⟩ := h
  simp [World.cell?, hb, hc j hj]
theorem RowOf.frozen {w : World} {b : Nat} {T : TypeId} {m : Nat} {f : Nat → Value} (h : RowOf w b T m f) (j : Nat) : w.frozen? ⟨b, j, none⟩ = false := by
  obtain ⟨c, hb, _, _⟩ := h
  simp [World.frozen?, hb]
theorem RowOf.lt {w : World} {b : Nat} {T : TypeId} {m : Nat} {f : Nat → Value} (h : RowOf w b T m f) : b < w.heap.size := by
  obtain ⟨c, hb, _, _⟩ := h
  exact (Array.getElem?_eq_some_iff.1 hb).1
theorem RowOf.of_block {w w' : World} {b : Nat} {T : TypeId} {m : Nat} {f : Nat → Value} (h : RowOf w b T m f) (e : w'.heap[b]? = w.heap[b]?) : RowOf w' b T m f := by
  obtain ⟨c, hb, h2, h3⟩ := h
  exact ⟨c, e.trans hb, h2, h3⟩
theorem RowOf.congr {w : World} {b : Nat} {T : TypeId} {m : Nat} {f g : Nat → Value} (h : RowOf w b T m f) (e : ∀ j, j < m → f j = g j) : RowOf w b T m g := by
  obtain ⟨c, hb, h2, h3⟩ := h
  exact ⟨c, hb, h2, fun j hj => by rw [h3 j hj, e j hj]⟩
theorem RowOf.set {w : World} {b : Nat} {T : TypeId} {m : Nat} {f : Nat → Value} (h : RowOf w b T m f) (i : Nat) (v : Value) : RowOf (w.setCell ⟨b, i, none⟩ v) b T m (fun j => if j = i then v else f j) := by
  obtain ⟨c, hb, hn, hc⟩ := h
  refine ⟨c.setIfInBounds i v, ?_, by simpa using hn, fun j hj => ?_⟩
  · simp [World.setCell, Array.getElem?_modify, hb]
  · rw [Array.getElem?_setIfInBounds]
    by_cases e : j = i
    · subst e
      simp; omega
    · rw [if_neg (fun h => e h.symm)]
      show c[j]? = some (if j = i then v else f j)
      rw [if_neg e]
      exact hc j hj
theorem RowOf.setOther {w : World} {b : Nat} {T : TypeId} {m : Nat} {f : Nat → Value} (h : RowOf w b T m f) {a : Addr} (ha : b ≠ a.block) (v : Value) : RowOf (w.setCell a v) b T m f := h.of_block (Below.heap_setCell _ _ _ _ ha)

/-- The versions l lie in block b. -/
def OwnV (w : World) (b : Nat) (l : List Vr) : Prop := ∃ f, RowOf w b 123 (l.length * 2) f ∧ ∀ i, i < l.length → f (i * 2) = .int .i64 (vAt l i).1 ∧ f (i * 2 + 1) = .int .i64 (vAt l i).2

theorem OwnV.of_block {w w' : World} {b : Nat} {l : List Vr} (h : OwnV w b l) (e : w'.heap[b]? = w.heap[b]?) : OwnV w' b l := by
  obtain ⟨f, h1, h2⟩ := h
  exact ⟨f, h1.of_block e, h2⟩
theorem OwnV.lt {w : World} {b : Nat} {l : List Vr} (h : OwnV w b l) : b < w.heap.size := by
  obtain ⟨f, h1, _⟩ := h
  exact h1.lt
theorem OwnV.vers {w : World} {b lo hi c : Nat} {l : List Vr} (h : OwnV w b l) (hlo : lo ≤ b) (hhi : b < hi) (hm : l.length ≤ maxLen) : VersAt lo hi w (.slice (some ⟨b, 0, none⟩) l.length c) l := by
  obtain ⟨f, h1, h2⟩ := h
  refine ⟨_, _, rfl, hm, fun hp => ⟨b, 0, rfl, hlo, hhi, fun i hi => ?_⟩⟩
  have g1 := h1.cell (show i * 2 < l.length * 2 by omega)
  have g2 := h1.cell (show i * 2 + 1 < l.length * 2 by omega)
  rw [(h2 i hi).1] at g1
  rw [(h2 i hi).2] at g2
  exact ⟨by simpa using g1, by simpa using g2⟩

/-- The chains l, owned: the outer row in block b, the i-th list in block Bs i, all of them apart. -/
def OwnC (lo hi : Nat) (w : World) (b : Nat) (Bs : Nat → Nat) (l : List Ch) : Prop :=
  lo ≤ b ∧ b < hi ∧ ∃ f, RowOf w b 94 (l.length * 3) f ∧
    (∀ i, i < l.length → f (i * 3) = .int .i64 (cAt l i).t ∧ f (i * 3 + 1) = .int .i64 (cAt l i).r ∧ (∃ c, (cAt l i).l.length ≤ c ∧ f (i * 3 + 2) = .slice (some ⟨Bs i, 0, none⟩) (cAt l i).l.length c) ∧ OwnV w (Bs i) (cAt l i).l ∧ lo ≤ Bs i ∧ Bs i < hi ∧ Bs i ≠ b) ∧
    ∀ i j, i < j → j < l.length → Bs i ≠ Bs j

theorem OwnC.keep {lo hi : Nat} {w w' : World} {b : Nat} {Bs : Nat → Nat} {l : List Ch} (h : OwnC lo hi w b Bs l) (hs : ∀ k, lo ≤ k → k < hi → k < w.heap.size → w'.heap[k]? = w.heap[k]?) : OwnC lo hi w' b Bs l := by
  obtain ⟨h1, h2, f, h3, h4, h5⟩ := h
  refine ⟨h1, h2, f, h3.of_block (hs b h1 h2 h3.lt), fun i hi => ?_, h5⟩
  obtain ⟨g1, g2, g3, g4, g5, g6, g7⟩ := h4 i hi
  exact ⟨g1, g2, g3, g4.of_block (hs _ g5 g6 g4.lt), g5, g6, g7⟩
theorem OwnC.stays {lo hi : Nat} {w w' : World} {b : Nat} {Bs : Nat → Nat} {l : List Ch} (h : OwnC lo hi w b Bs l) (hb : Below w.heap.size w w') : OwnC lo hi w' b Bs l := h.keep fun k _ _ hlt => hb.block k hlt
theorem OwnC.wide {lo hi lo' hi' : Nat} {w : World} {b : Nat} {Bs : Nat → Nat} {l : List Ch} (h : OwnC lo hi w b Bs l) (hl : lo' ≤ lo) (hh : hi ≤ hi') : OwnC lo' hi' w b Bs l := by
  obtain ⟨h1, h2, f, h3, h4, h5⟩ := h
  refine ⟨by omega, by omega, f, h3, fun i hi => ?_, h5⟩
  obtain ⟨g1, g2, g3, g4, g5, g6, g7⟩ := h4 i hi
  exact ⟨g1, g2, g3, g4, by omega, by omega, g7⟩
theorem OwnC.chains {lo hi : Nat} {w : World} {b c : Nat} {Bs : Nat → Nat} {l : List Ch} (h : OwnC lo hi w b Bs l) (hn : Small l) : ChainsAt lo hi w (.slice (some ⟨b, 0, none⟩) l.length c) l := by
  obtain ⟨h1, h2, f, h3, h4, _⟩ := h
  have hn1 := hn.1
  refine ⟨_, _, rfl, by unfold maxLen; omega, fun hp => ⟨b, 0, rfl, h1, h2, fun i hi => ?_⟩⟩
  obtain ⟨g1, g2, ⟨ci, _, g3⟩, g4, g5, g6, g7⟩ := h4 i hi
  have e1 := h3.cell (show i * 3 < l.length * 3 by omega)
  have e2 := h3.cell (show i * 3 + 1 < l.length * 3 by omega)
  have e3 := h3.cell (show i * 3 + 2 < l.length * 3 by omega)
  rw [g1] at e1
  rw [g2] at e2
  rw [g3] at e3
  exact ⟨by simpa using e1, by simpa using e2, _, _, by simpa using e3, g4.vers g5 g6 (by have := hn.2 i hi; unfold maxLen; omega)⟩

/-- The i-th list's cells: its capacity is no less than its length. -/
theorem OwnC.caps {lo hi : Nat} {w : World} {b : Nat} {Bs : Nat → Nat} {l : List Ch} (h : OwnC lo hi w b Bs l) {i : Nat} (hi' : i < l.length) : ∃ c, (cAt l i).l.length ≤ c ∧ w.cell? ⟨b, i * 3 + 1 + 1, none⟩ = some (.slice (some ⟨Bs i, 0, none⟩) (cAt l i).l.length c) := by
  obtain ⟨h1, h2, f, h3, h4, _⟩ := h
  obtain ⟨g1, g2, ⟨ci, gc, g3⟩, _⟩ := h4 i hi'
  have e3 := h3.cell (show i * 3 + 2 < l.length * 3 by omega)
  rw [g3] at e3
  exact ⟨ci, gc, e3⟩

def upd (Bs : Nat → Nat) (k B : Nat) : Nat → Nat := fun j => if j = k then B else Bs j
theorem upd_same (Bs : Nat → Nat) (k B : Nat) : upd Bs k B k = B := by simp [upd]
theorem upd_other (Bs : Nat → Nat) {k B j : Nat} (h : j ≠ k) : upd Bs k B j = Bs j := by simp [upd, h]

end Go.Proofs.YtmecbppblbmchaaGreatDoor

/- Tables and keys: the specification's own tests. -/
namespace Go.Proofs.YtmecbppblbmchaaGreatDoor
open Go.ChangeShapes Go.WideShapes Go.ChangeAt Go.RowKit Go.Sort
set_option linter.unusedVariables false
set_option maxRecDepth 100000
attribute [local go_sem ↓] Go.wp_at_zero Go.wp_at_succ

theorem l1table_any (t r : Int) (w : World) :
    Calls Tryz.prog 46 #[.agg #[.int .i64 t, .int .i64 r]] w fun e w' => e = .returned (.bool (tabB t)) ∧ Below w.heap.size w w' := by
  have hb : Below w.heap.size w (w.alloc (Obj.cells #[Value.int IntKind.i64 t, Value.int IntKind.i64 r] 46)) := (Below.refl _ _).alloc (Nat.le_refl _) _
  by_cases h1 : 0 ≤ t
  · by_cases h2 : t < 5
    · go_enter Tryz.func46, Tryz.ntmps46
      go_wp2
      go_ret
      exact ⟨by simp [tabB, h1, h2], hb⟩
    · go_enter Tryz.func46, Tryz.ntmps46
      go_wp2
      go_ret
      exact ⟨by simp [tabB, h1, h2], hb⟩
  · go_enter Tryz.func46, Tryz.ntmps46
    go_wp2
    go_ret
    exact ⟨by simp [tabB]; omega, hb⟩

theorem specKeyLess_any (a b c d : Int) (w : World) :
    Calls Tryz.prog 99 #[.agg #[.int .i64 a, .int .i64 b], .agg #[.int .i64 c, .int .i64 d]] w fun e w' => e = .returned (.bool (klB a b c d)) ∧ Below w.heap.size w w' := by
  have hb : Below w.heap.size w ((w.alloc (Obj.cells #[Value.int IntKind.i64 a, Value.int IntKind.i64 b] 46)).alloc (Obj.cells #[Value.int IntKind.i64 c, Value.int IntKind.i64 d] 46)) := (((Below.refl _ _).alloc (Nat.le_refl _) _).alloc (by simp) _)
  by_cases h1 : a < c
  · go_enter Tryz.func99, Tryz.ntmps99
    go_wp2
    go_ret
    exact ⟨by simp [klB, h1], hb⟩
  · by_cases h2 : a = c
    · subst h2
      by_cases h3 : b < d
      · go_enter Tryz.func99, Tryz.ntmps99
        go_wp2
        go_ret
        exact ⟨by simp [klB, h3], hb⟩
      · go_enter Tryz.func99, Tryz.ntmps99
        go_wp2
        go_ret
        exact ⟨by simp [klB, h3], hb⟩
    · go_enter Tryz.func99, Tryz.ntmps99
      go_wp2
      go_ret
      exact ⟨by simp [klB, h1, h2], hb⟩

end Go.Proofs.YtmecbppblbmchaaGreatDoor

/- What it is to be a store: the small tests, versOk, and both StoreOk functions. -/
namespace Go.Proofs.YtmecbppblbmchaaGreatDoor
open Go.ChangeShapes Go.WideShapes Go.ChangeAt Go.RowKit Go.Sort
set_option linter.unusedVariables false
set_option maxRecDepth 100000
attribute [local go_sem ↓] Go.wp_at_zero Go.wp_at_succ

def hourB (t : Int) : Bool := decide (0 ≤ t ∧ t ≤ 1000000)

theorem hourB_iff (t : Int) : hourB t = true ↔ 0 ≤ t ∧ t ≤ 1000000 := by simp [hourB]


theorem isHour_any (t : Int) (w : World) :
    Calls Tryz.prog 106 #[.int .i64 t] w fun e w' => e = .returned (.bool (hourB t)) ∧ w' = w := by
  by_cases h1 : 0 ≤ t
  · by_cases h2 : t ≤ 1000000
    · go_enter Tryz.func106, Tryz.ntmps106
      go_wp2
      go_ret
      exact ⟨by simp [hourB, h1, h2], rfl⟩
    · go_enter Tryz.func106, Tryz.ntmps106
      go_wp2
      go_ret
      exact ⟨by simp [hourB, h1, h2], rfl⟩
  · go_enter Tryz.func106, Tryz.ntmps106
    go_wp2
    go_ret
    exact ⟨by simp [hourB]; omega, rfl⟩

theorem l1hour_any (t : Int) (w : World) :
    Calls Tryz.prog 58 #[.int .i64 t] w fun e w' => e = .returned (.bool (hourB t)) ∧ w' = w := by
  by_cases h1 : 0 ≤ t
  · by_cases h2 : t ≤ 1000000
    · go_enter Tryz.func58, Tryz.ntmps58
      go_wp2
      go_ret
      exact ⟨by simp [hourB, h1, h2], rfl⟩
    · go_enter Tryz.func58, Tryz.ntmps58
      go_wp2
      go_ret
      exact ⟨by simp [hourB, h1, h2], rfl⟩
  · go_enter Tryz.func58, Tryz.ntmps58
    go_wp2
    go_ret
    exact ⟨by simp [hourB]; omega, rfl⟩




/-- One version behind the others: an hour from 1 to MaxClock, later than the last one. -/
def verOk (l : List Vr) (k : Nat) : Prop := 1 ≤ (vAt l k).1 ∧ (vAt l k).1 ≤ 1000000 ∧ (0 < k → (vAt l (k - 1)).1 < (vAt l k).1)
def versOk (l : List Vr) : Prop := 1 ≤ l.length ∧ l.length ≤ 200 ∧ ∀ k, k < l.length → verOk l k
def chainOk (l : List Ch) (i : Nat) : Prop := tabB (cAt l i).t = true ∧ (0 < i → klB (cAt l (i - 1)).t (cAt l (i - 1)).r (cAt l i).t (cAt l i).r = true) ∧ versOk (cAt l i).l
def storeOk (l : List Ch) : Prop := l.length ≤ 200 ∧ ∀ i, i < l.length → chainOk l i



theorem versOk_any (v : Value) (l : List Vr) (w : World) {lo hi : Nat} (h : VersAt lo hi w v l) :
    Calls Tryz.prog 137 #[v] w fun e w' => Says e (versOk l) ∧ w' = w := by
  obtain ⟨a, cap, rfl, hm, hc⟩ := h
  unfold maxLen at hm
  by_cases h0 : l.length = 0
  · have e0 : ((l.length : Int) == 0) = true := by simp [h0]
    clear hc
    go_enter Tryz.func137, Tryz.ntmps137
    go_wp2
    go_ret
    exact ⟨says_no fun h => by have := h.1; omega, rfl⟩
  · have e0 : ((l.length : Int) == 0) = false := by rw [beq_eq_false_iff_ne]; omega
    by_cases h2 : 200 < l.length
    · clear hc
      go_enter Tryz.func137, Tryz.ntmps137
      go_wp2
      go_ret
      exact ⟨says_no fun h => by have := h.2.1; omega, rfl⟩
    · obtain ⟨b, off, rfl, _, _, hcc⟩ := hc (by omega)
      clear hc
      go_enter Tryz.func137, Tryz.ntmps137
      go_wp2
      go_loop [3, 15] (fun x i => ∃ k : Nat, k ≤ l.length ∧ i = .int .i64 k ∧ (x = .int .i64 (if k = 0 then 0 else (vAt l (k - 1)).1)) ∧ ∀ j, j < k → verOk l j) (fun _ i => l.length - (intOf i).toNat)
      case atStart => exact ⟨0, Nat.zero_le _, rfl, rfl, fun j hj => absurd hj (Nat.not_lt_zero _)⟩
      case round =>
        obtain ⟨k, hk, rfl, rfl, hs⟩ := hrel
        generalize hx : (if k = 0 then (0 : Int) else (vAt l (k - 1)).1) = x
        have HX : Hid ((if k = 0 then (0 : Int) else (vAt l (k - 1)).1) = x) := hx
        clear hx
        by_cases hlt : k < l.length
        · have c0 := (hcc k hlt).1
          by_cases h3 : (vAt l k).1 ≤ x
          · go_wp2
            go_ret
            refine ⟨says_no fun h => ?_, rfl⟩
            have h4 := h.2.2 k hlt
            have h5 := HX.out
            have h6 := h4.1
            by_cases hz : k = 0
            · rw [if_pos hz] at h5; omega
            · rw [if_neg hz] at h5; have := h4.2.2 (by omega); omega
          · by_cases h4 : hourB (vAt l k).1 = true
            · go_wp2_with (go_at_call 106; refine (isHour_any _ _).mono ?_; rintro e w1 ⟨rfl, rfl⟩)
              go_round
              case rel =>
                refine ⟨k + 1, by omega, by go_num, by simp, fun j hj => ?_⟩
                by_cases e : j = k
                · subst e
                  have h5 := HX.out
                  have h6 := (hourB_iff _).1 h4
                  by_cases hz : j = 0
                  · rw [if_pos hz] at h5; exact ⟨by omega, h6.2, fun h => by omega⟩
                  · rw [if_neg hz] at h5
                    have h7 := (hs (j - 1) (by omega)).1
                    exact ⟨by omega, h6.2, fun _ => by omega⟩
                · exact hs j (by omega)
              case measure => simp [intOf]; omega
            · have h4' : hourB (vAt l k).1 = false := by simpa using h4
              go_wp2_with (go_at_call 106; refine (isHour_any _ _).mono ?_; rintro e w1 ⟨rfl, rfl⟩)
              go_ret
              refine ⟨says_no fun h => h4 ?_, rfl⟩
              have := h.2.2 k hlt
              exact (hourB_iff _).2 ⟨by have := this.1; omega, this.2.1⟩
        · go_wp2
          go_ret
          exact ⟨says_yes ⟨by omega, by omega, fun j hj => hs j (by omega)⟩, rfl⟩

theorem implStoreOk_any (v : Value) (l : List Ch) (w : World) {lo hi : Nat} (h : ChainsAt lo hi w v l) :
    Calls Tryz.prog 105 #[.agg #[v]] w fun e w' => Says e (storeOk l) ∧ Below w.heap.size w w' := by
  obtain ⟨a, cap, rfl, hm, hc⟩ := h
  unfold maxLen at hm
  have hbx : Below w.heap.size w (w.alloc (Obj.cells #[Value.slice a l.length cap] 32)) := (Below.refl _ _).alloc (Nat.le_refl _) _
  by_cases h2 : 200 < l.length
  · clear hc
    go_enter Tryz.func105, Tryz.ntmps105
    go_wp2
    go_ret
    exact ⟨says_no fun h => by have := h.1; omega, hbx⟩
  · go_enter Tryz.func105, Tryz.ntmps105
    go_wp2
    go_loopw [12] (fun i wr => ∃ k : Nat, k ≤ l.length ∧ i = .int .i64 k ∧ Below w.heap.size w wr ∧ wr.cell? ⟨w.heap.size, 0, none⟩ = some (.slice a l.length cap) ∧ ∀ j, j < k → chainOk l j) (fun i _ => l.length - (intOf i).toNat)
    case atStart => exact ⟨0, Nat.zero_le _, rfl, hbx, by simp, fun j hj => absurd hj (Nat.not_lt_zero _)⟩
    case round =>
      obtain ⟨k, hk, rfl, hb, hp, hs⟩ := hrel
      by_cases hlt : k < l.length
      · obtain ⟨b, off, rfl, hlo, hhi, hcc⟩ := hc (by omega)
        obtain ⟨c0, c1, ca, cb, c2, c3⟩ := hcc k hlt
        replace c0 := cell_stays hb c0
        replace c1 := cell_stays hb c1
        replace c2 := cell_stays hb c2
        have i0 : (0 : Int) ≤ (k : Int) := by omega
        have i1 : (k : Int) < (l.length : Int) := by omega
        clear hc
        by_cases ht : tabB (cAt l k).t = true
        · by_cases hv : versOk (cAt l k).l
          · by_cases hkp : (0 : Int) < (k : Int)
            · have hkn : 0 < k := by omega
              obtain ⟨p0, p1, pa, pb, p2, p3⟩ := hcc (k - 1) (by omega)
              replace p0 := cell_stays hb p0
              replace p1 := cell_stays hb p1
              by_cases hkl : klB (cAt l (k - 1)).t (cAt l (k - 1)).r (cAt l k).t (cAt l k).r = true
              · go_wp2_with (first | (go_at_call 118; refine (isTable_any _ _).mono ?_; rintro e w1 ⟨rfl, rfl⟩) | (go_at_call 137; refine (versOk_any _ _ _ (c3.stays (hb.alloc hb.size _))).mono ?_; rintro e w1 ⟨⟨q, rfl, hq⟩, rfl⟩; obtain rfl := hq.2 hv; clear hq))
                have hA : Below wr.heap.size wr (wr.alloc (Obj.cells #[Value.int IntKind.i64 (cAt l k).t, Value.int IntKind.i64 (cAt l k).r, Value.slice ca (cAt l k).l.length cb] 94)) := (Below.refl _ _).alloc (Nat.le_refl _) _
                have k0 := cell_regrown (cell_stays hA hp)
                have k1 := cell_regrown (cell_stays hA p0)
                have k2 := cell_regrown (cell_stays hA p1)
                have k3 := cell_regrown (w := wr.alloc (Obj.cells #[Value.int IntKind.i64 (cAt l k).t, Value.int IntKind.i64 (cAt l k).r, Value.slice ca (cAt l k).l.length cb] 94)) (a := ⟨wr.heap.size, 0, none⟩) (v := .int .i64 (cAt l k).t) (by simp)
                have k4 := cell_regrown (w := wr.alloc (Obj.cells #[Value.int IntKind.i64 (cAt l k).t, Value.int IntKind.i64 (cAt l k).r, Value.slice ca (cAt l k).l.length cb] 94)) (a := ⟨wr.heap.size, 1, none⟩) (v := .int .i64 (cAt l k).r) (by simp)
                refine wp_region_quiet_below (by kernel_rfl) (by kernel_rfl) ?_
                repeat (go_big_quiet_step ((go_at_call 138; exact Calls.regrown_of (implKeyLess_any _ _ _ _ _))))
                refine wpQuiet_nil ?_
                intro w2 hw2
                obtain ⟨⟨dq, osq⟩, hw3⟩ := hw2
                have hb2 : Below _ _ w2 := hw3 ▸ below_regrown _ dq osq
                clear hw3
                have hlast : chainOk l k := ⟨ht, fun _ => hkl, hv⟩
                go_wp2
                go_roundw
                case rel => exact ⟨k + 1, by omega, by go_num, hb.trans ((hA.trans (hb2.mono hA.size)).mono hb.size), cell_stays hb2 (cell_stays hA hp), upto_succ hs hlast⟩
                case measure => simp [intOf]; omega
              · have hkl' : klB (cAt l (k - 1)).t (cAt l (k - 1)).r (cAt l k).t (cAt l k).r = false := by simpa using hkl
                go_wp2_with (first | (go_at_call 118; refine (isTable_any _ _).mono ?_; rintro e w1 ⟨rfl, rfl⟩) | (go_at_call 137; refine (versOk_any _ _ _ (c3.stays (hb.alloc hb.size _))).mono ?_; rintro e w1 ⟨⟨q, rfl, hq⟩, rfl⟩; obtain rfl := hq.2 hv; clear hq))
                have hA : Below wr.heap.size wr (wr.alloc (Obj.cells #[Value.int IntKind.i64 (cAt l k).t, Value.int IntKind.i64 (cAt l k).r, Value.slice ca (cAt l k).l.length cb] 94)) := (Below.refl _ _).alloc (Nat.le_refl _) _
                have k0 := cell_regrown (cell_stays hA hp)
                have k1 := cell_regrown (cell_stays hA p0)
                have k2 := cell_regrown (cell_stays hA p1)
                have k3 := cell_regrown (w := wr.alloc (Obj.cells #[Value.int IntKind.i64 (cAt l k).t, Value.int IntKind.i64 (cAt l k).r, Value.slice ca (cAt l k).l.length cb] 94)) (a := ⟨wr.heap.size, 0, none⟩) (v := .int .i64 (cAt l k).t) (by simp)
                have k4 := cell_regrown (w := wr.alloc (Obj.cells #[Value.int IntKind.i64 (cAt l k).t, Value.int IntKind.i64 (cAt l k).r, Value.slice ca (cAt l k).l.length cb] 94)) (a := ⟨wr.heap.size, 1, none⟩) (v := .int .i64 (cAt l k).r) (by simp)
                refine wp_region_quiet_below (by kernel_rfl) (by kernel_rfl) ?_
                repeat (go_big_quiet_step ((go_at_call 138; exact Calls.regrown_of (implKeyLess_any _ _ _ _ _))))
                refine wpQuiet_nil ?_
                intro w2 hw2
                obtain ⟨⟨dq, osq⟩, hw3⟩ := hw2
                have hb2 : Below _ _ w2 := hw3 ▸ below_regrown _ dq osq
                clear hw3
                go_wp2
                go_ret
                exact ⟨says_no fun h => hkl ((h.2 k hlt).2.1 hkn), hb.trans ((hA.trans (hb2.mono hA.size)).mono hb.size)⟩
            · have hd : decide ((0 : Int) < (k : Int)) = false := by simpa using hkp
              have hd' : decide (0 < k) = false := by simp; omega
              go_wp2_with (first | (go_at_call 118; refine (isTable_any _ _).mono ?_; rintro e w1 ⟨rfl, rfl⟩) | (go_at_call 137; refine (versOk_any _ _ _ (c3.stays (hb.alloc hb.size _))).mono ?_; rintro e w1 ⟨⟨q, rfl, hq⟩, rfl⟩; obtain rfl := hq.2 hv; clear hq))
              have hA : Below wr.heap.size wr (wr.alloc (Obj.cells #[Value.int IntKind.i64 (cAt l k).t, Value.int IntKind.i64 (cAt l k).r, Value.slice ca (cAt l k).l.length cb] 94)) := (Below.refl _ _).alloc (Nat.le_refl _) _
              refine wp_region_quiet_below (by kernel_rfl) (by kernel_rfl) ?_
              repeat (go_big_quiet_step (fail))
              refine wpQuiet_nil ?_
              intro w2 hw2
              obtain ⟨⟨dq, osq⟩, hw3⟩ := hw2
              have hb2 : Below _ _ w2 := hw3 ▸ below_regrown _ dq osq
              clear hw3
              have hlast : chainOk l k := ⟨ht, fun h => by omega, hv⟩
              go_wp2
              go_roundw
              case rel => exact ⟨k + 1, by omega, by go_num, hb.trans ((hA.trans (hb2.mono hA.size)).mono hb.size), cell_stays hb2 (cell_stays hA hp), upto_succ hs hlast⟩
              case measure => simp [intOf]; omega
          · go_wp2_with (first | (go_at_call 118; refine (isTable_any _ _).mono ?_; rintro e w1 ⟨rfl, rfl⟩) | (go_at_call 137; refine (versOk_any _ _ _ (c3.stays (hb.alloc hb.size _))).mono ?_; rintro e w1 ⟨⟨q, rfl, hq⟩, rfl⟩; obtain rfl := says_false hq hv; clear hq))
            go_ret
            exact ⟨says_no fun h => hv (h.2 k hlt).2.2, hb.alloc hb.size _⟩
        · have ht' : tabB (cAt l k).t = false := by simpa using ht
          go_wp2_with (first | (go_at_call 118; refine (isTable_any _ _).mono ?_; rintro e w1 ⟨rfl, rfl⟩))
          go_ret
          exact ⟨says_no fun h => ht (h.2 k hlt).1, hb.alloc hb.size _⟩
      · go_wp2
        go_ret
        exact ⟨says_yes ⟨by omega, fun j hj => hs j (by omega)⟩, hb⟩

end Go.Proofs.YtmecbppblbmchaaGreatDoor
