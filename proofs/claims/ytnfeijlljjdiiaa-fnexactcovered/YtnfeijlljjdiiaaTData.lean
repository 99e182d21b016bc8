/- The plain data of sets: what it means that slices in memory hold numbers, texts, nodes and procedures; and that such a reading lasts while nothing old is turned. -/
import Derived.Test.YtnfeijlljjdiiaaData
namespace Go.Proofs.Ytnfeijlljjdiiaa
open Go.RowKit

structure Nd where
  k : Int
  s : ByteArray
  n : Int
  kids : List Int
structure Pr where
  name : ByteArray
  ps : List ByteArray
  body : Int

def nd0 : Nd := ⟨0, ByteArray.empty, 0, []⟩
def pr0 : Pr := ⟨ByteArray.empty, [], 0⟩

def iAt (l : List Int) (i : Nat) : Int := l.getD i 0
def sAt (l : List ByteArray) (i : Nat) : ByteArray := l.getD i ByteArray.empty
def ndAt (l : List Nd) (i : Nat) : Nd := l.getD i nd0
def prAt (l : List Pr) (i : Nat) : Pr := l.getD i pr0

/-- The slice v holds the numbers l, in blocks from lo on and ahead of hi. -/
def IntsAt (lo hi : Nat) (w : World) (v : Value) (l : List Int) : Prop :=
  ∃ a cap, v = .slice a l.length cap ∧ l.length ≤ maxLen ∧ (0 < l.length → ∃ b off, a = some ⟨b, off, none⟩ ∧ lo ≤ b ∧ b < hi ∧
    ∀ i, i < l.length → w.cell? ⟨b, off + i, none⟩ = some (.int .i64 (iAt l i)))

/-- The slice v holds the texts l. -/
def TextsAt (lo hi : Nat) (w : World) (v : Value) (l : List ByteArray) : Prop :=
  ∃ a cap, v = .slice a l.length cap ∧ l.length ≤ maxLen ∧ (0 < l.length → ∃ b off, a = some ⟨b, off, none⟩ ∧ lo ≤ b ∧ b < hi ∧
    ∀ i, i < l.length → w.cell? ⟨b, off + i, none⟩ = some (.string (sAt l i)))

/-- The slice v holds the nodes l. -/
def NodesAt (lo hi : Nat) (w : World) (v : Value) (l : List Nd) : Prop :=
  ∃ a cap, v = .slice a l.length cap ∧ l.length ≤ maxLen ∧ (0 < l.length → ∃ b off, a = some ⟨b, off, none⟩ ∧ lo ≤ b ∧ b < hi ∧
    ∀ i, i < l.length → w.cell? ⟨b, off + i * 4, none⟩ = some (.int .i64 (ndAt l i).k) ∧ w.cell? ⟨b, off + i * 4 + 1, none⟩ = some (.string (ndAt l i).s) ∧
      w.cell? ⟨b, off + i * 4 + 1 + 1, none⟩ = some (.int .i64 (ndAt l i).n) ∧
      ∃ a c, w.cell? ⟨b, off + i * 4 + 1 + 1 + 1, none⟩ = some (.slice a (ndAt l i).kids.length c) ∧ IntsAt lo hi w (.slice a (ndAt l i).kids.length c) (ndAt l i).kids)

/-- The slice v holds the procedures l. -/
def ProcsAt (lo hi : Nat) (w : World) (v : Value) (l : List Pr) : Prop :=
  ∃ a cap, v = .slice a l.length cap ∧ l.length ≤ maxLen ∧ (0 < l.length → ∃ b off, a = some ⟨b, off, none⟩ ∧ lo ≤ b ∧ b < hi ∧
    ∀ i, i < l.length → w.cell? ⟨b, off + i * 3, none⟩ = some (.string (prAt l i).name) ∧
      (∃ a c, w.cell? ⟨b, off + i * 3 + 1, none⟩ = some (.slice a (prAt l i).ps.length c) ∧ TextsAt lo hi w (.slice a (prAt l i).ps.length c) (prAt l i).ps) ∧
      w.cell? ⟨b, off + i * 3 + 1 + 1, none⟩ = some (.int .i64 (prAt l i).body))

theorem IntsAt.keep {lo hi : Nat} {w w' : World} {v : Value} {l : List Int} (h : IntsAt lo hi w v l) (hs : ∀ b, lo ≤ b → b < hi → b < w.heap.size → w'.heap[b]? = w.heap[b]?) : IntsAt lo hi w' v l := by
  obtain ⟨a, cap, h1, h2, h3⟩ := h
  refine ⟨a, cap, h1, h2, fun hp => ?_⟩
  obtain ⟨b, off, ha, hl, hh, hc⟩ := h3 hp
  exact ⟨b, off, ha, hl, hh, fun i hi => cell_same (hs b hl hh (cell_lt (hc i hi))) (hc i hi)⟩
theorem IntsAt.stays {lo hi : Nat} {w w' : World} {v : Value} {l : List Int} (h : IntsAt lo hi w v l) (hb : Below w.heap.size w w') : IntsAt lo hi w' v l :=
  h.keep fun b _ _ hlt => hb.block b hlt
theorem IntsAt.wide {lo hi lo' hi' : Nat} {w : World} {v : Value} {l : List Int} (h : IntsAt lo hi w v l) (hl : lo' ≤ lo) (hh : hi ≤ hi') : IntsAt lo' hi' w v l := by
  obtain ⟨a, cap, h1, h2, h3⟩ := h
  refine ⟨a, cap, h1, h2, fun hp => ?_⟩
  obtain ⟨b, off, ha, hl', hh', hc⟩ := h3 hp
  exact ⟨b, off, ha, by omega, by omega, hc⟩

theorem TextsAt.keep {lo hi : Nat} {w w' : World} {v : Value} {l : List ByteArray} (h : TextsAt lo hi w v l) (hs : ∀ b, lo ≤ b → b < hi → b < w.heap.size → w'.heap[b]? = w.heap[b]?) : TextsAt lo hi w' v l := by
  obtain ⟨a, cap, h1, h2, h3⟩ := h
  refine ⟨a, cap, h1, h2, fun hp => ?_⟩
  obtain ⟨b, off, ha, hl, hh, hc⟩ := h3 hp
  exact ⟨b, off, ha, hl, hh, fun i hi => cell_same (hs b hl hh (cell_lt (hc i hi))) (hc i hi)⟩
theorem TextsAt.stays {lo hi : Nat} {w w' : World} {v : Value} {l : List ByteArray} (h : TextsAt lo hi w v l) (hb : Below w.heap.size w w') : TextsAt lo hi w' v l :=
  h.keep fun b _ _ hlt => hb.block b hlt
theorem TextsAt.wide {lo hi lo' hi' : Nat} {w : World} {v : Value} {l : List ByteArray} (h : TextsAt lo hi w v l) (hl : lo' ≤ lo) (hh : hi ≤ hi') : TextsAt lo' hi' w v l := by
  obtain ⟨a, cap, h1, h2, h3⟩ := h
  refine ⟨a, cap, h1, h2, fun hp => ?_⟩
  obtain ⟨b, off, ha, hl', hh', hc⟩ := h3 hp
  exact ⟨b, off, ha, by omega, by omega, hc⟩

theorem NodesAt.keep {lo hi : Nat} {w w' : World} {v : Value} {l : List Nd} (h : NodesAt lo hi w v l) (hs : ∀ b, lo ≤ b → b < hi → b < w.heap.size → w'.heap[b]? = w.heap[b]?) : NodesAt lo hi w' v l := by
  obtain ⟨a, cap, h1, h2, h3⟩ := h
  refine ⟨a, cap, h1, h2, fun hp => ?_⟩
  obtain ⟨b, off, ha, hl, hh, hc⟩ := h3 hp
  refine ⟨b, off, ha, hl, hh, fun i hi => ?_⟩
  obtain ⟨c1, c2, c3, a', c', c4, c5⟩ := hc i hi
  have e := hs b hl hh (cell_lt c1)
  exact ⟨cell_same e c1, cell_same e c2, cell_same e c3, a', c', cell_same e c4, c5.keep hs⟩
theorem NodesAt.stays {lo hi : Nat} {w w' : World} {v : Value} {l : List Nd} (h : NodesAt lo hi w v l) (hb : Below w.heap.size w w') : NodesAt lo hi w' v l :=
  h.keep fun b _ _ hlt => hb.block b hlt
theorem NodesAt.wide {lo hi lo' hi' : Nat} {w : World} {v : Value} {l : List Nd} (h : NodesAt lo hi w v l) (hl : lo' ≤ lo) (hh : hi ≤ hi') : NodesAt lo' hi' w v l := by
  obtain ⟨a, cap, h1, h2, h3⟩ := h
  refine ⟨a, cap, h1, h2, fun hp => ?_⟩
  obtain ⟨b, off, ha, hl', hh', hc⟩ := h3 hp
  refine ⟨b, off, ha, by omega, by omega, fun i hi => ?_⟩
  obtain ⟨c1, c2, c3, a', c', c4, c5⟩ := hc i hi
  exact ⟨c1, c2, c3, a', c', c4, c5.wide hl hh⟩

theorem ProcsAt.keep {lo hi : Nat} {w w' : World} {v : Value} {l : List Pr} (h : ProcsAt lo hi w v l) (hs : ∀ b, lo ≤ b → b < hi → b < w.heap.size → w'.heap[b]? = w.heap[b]?) : ProcsAt lo hi w' v l := by
  obtain ⟨a, cap, h1, h2, h3⟩ := h
  refine ⟨a, cap, h1, h2, fun hp => ?_⟩
  obtain ⟨b, off, ha, hl, hh, hc⟩ := h3 hp
  refine ⟨b, off, ha, hl, hh, fun i hi => ?_⟩
  obtain ⟨c1, ⟨a', c', c2, c3⟩, c4⟩ := hc i hi
  have e := hs b hl hh (cell_lt c1)
  exact ⟨cell_same e c1, ⟨a', c', cell_same e c2, c3.keep hs⟩, cell_same e c4⟩
theorem ProcsAt.stays {lo hi : Nat} {w w' : World} {v : Value} {l : List Pr} (h : ProcsAt lo hi w v l) (hb : Below w.heap.size w w') : ProcsAt lo hi w' v l :=
  h.keep fun b _ _ hlt => hb.block b hlt
theorem ProcsAt.wide {lo hi lo' hi' : Nat} {w : World} {v : Value} {l : List Pr} (h : ProcsAt lo hi w v l) (hl : lo' ≤ lo) (hh : hi ≤ hi') : ProcsAt lo' hi' w v l := by
  obtain ⟨a, cap, h1, h2, h3⟩ := h
  refine ⟨a, cap, h1, h2, fun hp => ?_⟩
  obtain ⟨b, off, ha, hl', hh', hc⟩ := h3 hp
  refine ⟨b, off, ha, by omega, by omega, fun i hi => ?_⟩
  obtain ⟨c1, ⟨a', c', c2, c3⟩, c4⟩ := hc i hi
  exact ⟨c1, ⟨a', c', c2, c3.wide hl hh⟩, c4⟩

end Go.Proofs.Ytnfeijlljjdiiaa
