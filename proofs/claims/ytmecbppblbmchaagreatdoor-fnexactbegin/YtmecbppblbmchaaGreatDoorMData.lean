import Derived.Test.YtmecbppblbmchaaGreatDoorHeld
import Derived.Test.YtmecbppblbmchaaGreatDoorStoreOf2
import Derived.Test.YtmecbppblbmchaaGreatDoorRead
/- Stores that a call has made: read, kept, marked and held. -/
namespace Go.Proofs.YtmecbppblbmchaaGreatDoor
open Go.ChangeShapes Go.WideShapes Go.ChangeAt Go.RowKit Go.Sort
set_option linter.unusedVariables false
set_option maxRecDepth 100000
attribute [local go_sem ↓] Go.wp_at_zero Go.wp_at_succ

theorem OwnS.chains {lo : Nat} {w : World} {v : Value} {l : List Ch} (h : OwnS lo w v l) (hn : Small l) : ChainsAt lo w.heap.size w v l := by
  rcases h with ⟨rfl, rfl⟩ | ⟨b, Bs, cap, rfl, ho⟩
  · exact ⟨none, 0, rfl, Nat.zero_le _, fun hp => absurd hp (Nat.lt_irrefl _)⟩
  · exact ho.chains hn
theorem OwnS.stays {lo : Nat} {w w' : World} {v : Value} {l : List Ch} (h : OwnS lo w v l) (hb : Below w.heap.size w w') : OwnS lo w' v l := by
  rcases h with h | ⟨b, Bs, cap, h, ho⟩
  · exact .inl h
  · exact .inr ⟨b, Bs, cap, h, (ho.stays hb).wide (Nat.le_refl _) hb.size⟩
/-- The same in a world that has turned below lo only. -/
theorem OwnS.keep {lo : Nat} {w w' : World} {v : Value} {l : List Ch} (h : OwnS lo w v l) (hs : ∀ k, lo ≤ k → k < w.heap.size → w'.heap[k]? = w.heap[k]?) (hz : w.heap.size ≤ w'.heap.size) : OwnS lo w' v l := by
  rcases h with h | ⟨b, Bs, cap, h, ho⟩
  · exact .inl h
  · exact .inr ⟨b, Bs, cap, h, (ho.keep fun k h1 h2 h3 => hs k h1 h3).wide (Nat.le_refl _) hz⟩

/-- As OwnS, in blocks ahead of hi. -/
def OwnT (lo hi : Nat) (w : World) (v : Value) (l : List Ch) : Prop := (v = .slice none 0 0 ∧ l = []) ∨ ∃ b Bs cap, v = .slice (some ⟨b, 0, none⟩) l.length cap ∧ OwnC lo hi w b Bs l
theorem OwnT.chains {lo hi : Nat} {w : World} {v : Value} {l : List Ch} (h : OwnT lo hi w v l) (hn : Small l) : ChainsAt lo hi w v l := by
  rcases h with ⟨rfl, rfl⟩ | ⟨b, Bs, cap, rfl, ho⟩
  · exact ⟨none, 0, rfl, Nat.zero_le _, fun hp => absurd hp (Nat.lt_irrefl _)⟩
  · exact ho.chains hn
theorem OwnT.keep {lo hi : Nat} {w w' : World} {v : Value} {l : List Ch} (h : OwnT lo hi w v l) (hs : ∀ k, lo ≤ k → k < hi → k < w.heap.size → w'.heap[k]? = w.heap[k]?) : OwnT lo hi w' v l := by
  rcases h with h | ⟨b, Bs, cap, h, ho⟩
  · exact .inl h
  · exact .inr ⟨b, Bs, cap, h, ho.keep hs⟩
theorem OwnT.stays {lo hi : Nat} {w w' : World} {v : Value} {l : List Ch} (h : OwnT lo hi w v l) (hb : Below w.heap.size w w') : OwnT lo hi w' v l := h.keep fun k _ _ hk => hb.block k hk

theorem MarkedC.stays {lo hi : Nat} {w w' : World} {b : Nat} {Bs : Nat → Nat} {l : List Ch} {k n : Nat} (h : MarkedC lo hi w b Bs l k n) (hb : Below w.heap.size w w') : MarkedC lo hi w' b Bs l k n := by
  obtain ⟨f, h1, h2⟩ := h
  refine ⟨f, h1.of_block (hb.block _ h1.lt), fun i hi' => ?_⟩
  obtain ⟨g1, g, g2, g3⟩ := h2 i hi'
  exact ⟨g1, g, g2.of_block (hb.block _ g2.lt), g3⟩
def MarkedT (w : World) (v : Value) (l : List Ch) : Prop := (v = .slice none 0 0 ∧ l = []) ∨ ∃ lo hi b Bs cap, v = .slice (some ⟨b, 0, none⟩) l.length cap ∧ MarkedC lo hi w b Bs l 1 l.length
theorem MarkedT.stays {w w' : World} {v : Value} {l : List Ch} (h : MarkedT w v l) (hb : Below w.heap.size w w') : MarkedT w' v l := by
  rcases h with h | ⟨lo, hi, b, Bs, cap, h, hm⟩
  · exact .inl h
  · exact .inr ⟨lo, hi, b, Bs, cap, h, hm.stays hb⟩

theorem markT_any (v : Value) (l : List Ch) (w : World) {lo hi : Nat} (h : OwnT lo hi w v l) (hn : Small l) (hhi : hi ≤ w.heap.size) :
    Calls Tryz.prog 39 #[.agg #[v], .int .i64 1] w fun e w' => e = .returned (.int .i64 ((1 + mk l l.length : Nat) : Int)) ∧ (∀ x, ¬ (lo ≤ x ∧ x < hi) → x < w.heap.size → w'.heap[x]? = w.heap[x]?) ∧ w'.os = w.os ∧ w'.tape = w.tape ∧ w'.output = w.output ∧ w.heap.size ≤ w'.heap.size ∧ MarkedT w' v l := by
  rcases h with ⟨rfl, rfl⟩ | ⟨b, Bs, cap, rfl, ho⟩
  · refine (markStore_nil 1 w).mono ?_
    rintro e w' ⟨rfl, hb⟩
    exact ⟨rfl, fun x _ hx => hb.block x hx, hb.os, hb.tape, hb.output, hb.size, .inl ⟨rfl, rfl⟩⟩
  · refine (markStore_any b Bs l cap 1 w ho hn (by omega) hhi).mono ?_
    rintro e w' ⟨rfl, h1, h2, h3, h4, h5, h6⟩
    exact ⟨rfl, h1, h2, h3, h4, h5, .inr ⟨_, _, b, Bs, cap, rfl, h6⟩⟩
theorem heldT_any (v : Value) (l : List Ch) (w : World) (h : MarkedT w v l) (hn : Small l) :
    Calls Tryz.prog 42 #[.agg #[v], .int .i64 1] w fun e w' => e = .returned (.int .i64 ((1 + mk l l.length : Nat) : Int)) ∧ Below w.heap.size w w' := by
  rcases h with ⟨rfl, rfl⟩ | ⟨lo, hi, b, Bs, cap, rfl, hm⟩
  · exact heldStore_nil 1 w
  · exact heldStore_any b Bs l cap 1 w (fun o => hm.stays (below_alloc w o)) hn (by omega)

end Go.Proofs.YtmecbppblbmchaaGreatDoor

/- Rows in memory. -/
namespace Go.Proofs.YtmecbppblbmchaaGreatDoor
open Go.ChangeShapes Go.WideShapes Go.ChangeAt Go.RowKit Go.Sort
set_option linter.unusedVariables false
set_option maxRecDepth 100000

/-- The slice v holds the rows l. -/
def RowsAt (lo hi : Nat) (w : World) (v : Value) (l : List Rw) : Prop :=
  ∃ a cap, v = .slice a l.length cap ∧ l.length ≤ maxLen ∧ (0 < l.length → ∃ b off, a = some ⟨b, off, none⟩ ∧ lo ≤ b ∧ b < hi ∧
    ∀ i, i < l.length → w.cell? ⟨b, off + i * 3, none⟩ = some (.int .i64 (rAt l i).t) ∧ w.cell? ⟨b, off + i * 3 + 1, none⟩ = some (.int .i64 (rAt l i).r) ∧ w.cell? ⟨b, off + i * 3 + 2, none⟩ = some (.int .i64 (rAt l i).v))

theorem RowsAt.keep {lo hi : Nat} {w w' : World} {v : Value} {l : List Rw} (h : RowsAt lo hi w v l) (hs : ∀ b, lo ≤ b → b < hi → b < w.heap.size → w'.heap[b]? = w.heap[b]?) : RowsAt lo hi w' v l := by
  obtain ⟨a, cap, h1, h2, h3⟩ := h
  refine ⟨a, cap, h1, h2, fun hp => ?_⟩
  obtain ⟨b, off, ha, hl, hh, hc⟩ := h3 hp
  refine ⟨b, off, ha, hl, hh, fun i hi => ?_⟩
  obtain ⟨c0, c1, c2⟩ := hc i hi
  have e := hs b hl hh (cell_lt c0)
  exact ⟨cell_same e c0, cell_same e c1, cell_same e c2⟩
theorem RowsAt.stays {lo hi : Nat} {w w' : World} {v : Value} {l : List Rw} (h : RowsAt lo hi w v l) (hb : Below w.heap.size w w') : RowsAt lo hi w' v l := h.keep fun b _ _ hlt => hb.block b hlt
theorem RowsAt.wide {lo hi lo' hi' : Nat} {w : World} {v : Value} {l : List Rw} (h : RowsAt lo hi w v l) (hl : lo' ≤ lo) (hh : hi ≤ hi') : RowsAt lo' hi' w v l := by
  obtain ⟨a, cap, h1, h2, h3⟩ := h
  refine ⟨a, cap, h1, h2, fun hp => ?_⟩
  obtain ⟨b, off, ha, hl', hh', hc⟩ := h3 hp
  exact ⟨b, off, ha, by omega, by omega, hc⟩

def WfRw (l : List Rw) : Prop := ∀ i, i < l.length → wf (rAt l i).t ∧ wf (rAt l i).r

end Go.Proofs.YtmecbppblbmchaaGreatDoor

/- The plain data of the whole: transactions, events, a state; lists of them in memory, and lists that a call owns. -/
namespace Go.Proofs.YtmecbppblbmchaaGreatDoor
open Go.ChangeShapes Go.WideShapes Go.ChangeAt Go.RowKit Go.Sort
set_option linter.unusedVariables false
set_option maxRecDepth 100000

structure Td where
  i : Int
  s : Int
  w : List Rw
structure Ed where
  k : Int
  x : Int
  t : Int
  r : Int
  v : Int
  a : Int
structure Md where
  s : List Ch
  c : Int
  n : Int
  x : List Td
  h : List Ed

def td0 : Td := ⟨0, 0, []⟩
def ed0 : Ed := ⟨0, 0, 0, 0, 0, 0⟩
def tAt (l : List Td) (i : Nat) : Td := l.getD i td0
def eAt (l : List Ed) (i : Nat) : Ed := l.getD i ed0

/-- The slice v holds the events l. -/
def EvsAt (lo hi : Nat) (w : World) (v : Value) (l : List Ed) : Prop :=
  ∃ a cap, v = .slice a l.length cap ∧ l.length ≤ maxLen ∧ (0 < l.length → ∃ b off, a = some ⟨b, off, none⟩ ∧ lo ≤ b ∧ b < hi ∧
    ∀ i, i < l.length → w.cell? ⟨b, off + i * 6, none⟩ = some (.int .i64 (eAt l i).k) ∧ w.cell? ⟨b, off + i * 6 + 1, none⟩ = some (.int .i64 (eAt l i).x) ∧ w.cell? ⟨b, off + i * 6 + 2, none⟩ = some (.int .i64 (eAt l i).t) ∧ w.cell? ⟨b, off + i * 6 + 3, none⟩ = some (.int .i64 (eAt l i).r) ∧ w.cell? ⟨b, off + i * 6 + 4, none⟩ = some (.int .i64 (eAt l i).v) ∧ w.cell? ⟨b, off + i * 6 + 5, none⟩ = some (.int .i64 (eAt l i).a))

/-- The slice v holds the transactions l. -/
def TxsAt (lo hi : Nat) (w : World) (v : Value) (l : List Td) : Prop :=
  ∃ a cap, v = .slice a l.length cap ∧ l.length ≤ maxLen ∧ (0 < l.length → ∃ b off, a = some ⟨b, off, none⟩ ∧ lo ≤ b ∧ b < hi ∧
    ∀ i, i < l.length → w.cell? ⟨b, off + i * 3, none⟩ = some (.int .i64 (tAt l i).i) ∧ w.cell? ⟨b, off + i * 3 + 1, none⟩ = some (.int .i64 (tAt l i).s) ∧
      ∃ a c, w.cell? ⟨b, off + i * 3 + 2, none⟩ = some (.slice a (tAt l i).w.length c) ∧ RowsAt lo hi w (.slice a (tAt l i).w.length c) (tAt l i).w)

theorem EvsAt.keep {lo hi : Nat} {w w' : World} {v : Value} {l : List Ed} (h : EvsAt lo hi w v l) (hs : ∀ b, lo ≤ b → b < hi → b < w.heap.size → w'.heap[b]? = w.heap[b]?) : EvsAt lo hi w' v l := by
  obtain ⟨a, cap, h1, h2, h3⟩ := h
  refine ⟨a, cap, h1, h2, fun hp => ?_⟩
  obtain ⟨b, off, ha, hl, hh, hc⟩ := h3 hp
  refine ⟨b, off, ha, hl, hh, fun i hi => ?_⟩
  obtain ⟨c0, c1, c2, c3, c4, c5⟩ := hc i hi
  have e := hs b hl hh (cell_lt c0)
  exact ⟨cell_same e c0, cell_same e c1, cell_same e c2, cell_same e c3, cell_same e c4, cell_same e c5⟩
theorem EvsAt.stays {lo hi : Nat} {w w' : World} {v : Value} {l : List Ed} (h : EvsAt lo hi w v l) (hb : Below w.heap.size w w') : EvsAt lo hi w' v l := h.keep fun b _ _ hlt => hb.block b hlt
theorem EvsAt.wide {lo hi lo' hi' : Nat} {w : World} {v : Value} {l : List Ed} (h : EvsAt lo hi w v l) (hl : lo' ≤ lo) (hh : hi ≤ hi') : EvsAt lo' hi' w v l := by
  obtain ⟨a, cap, h1, h2, h3⟩ := h
  refine ⟨a, cap, h1, h2, fun hp => ?_⟩
  obtain ⟨b, off, ha, hl', hh', hc⟩ := h3 hp
  exact ⟨b, off, ha, by omega, by omega, hc⟩

theorem TxsAt.keep {lo hi : Nat} {w w' : World} {v : Value} {l : List Td} (h : TxsAt lo hi w v l) (hs : ∀ b, lo ≤ b → b < hi → b < w.heap.size → w'.heap[b]? = w.heap[b]?) : TxsAt lo hi w' v l := by
  obtain ⟨a, cap, h1, h2, h3⟩ := h
  refine ⟨a, cap, h1, h2, fun hp => ?_⟩
  obtain ⟨b, off, ha, hl, hh, hc⟩ := h3 hp
  refine ⟨b, off, ha, hl, hh, fun i hi => ?_⟩
  obtain ⟨c1, c2, a', c', c3, c4⟩ := hc i hi
  have e := hs b hl hh (cell_lt c1)
  exact ⟨cell_same e c1, cell_same e c2, a', c', cell_same e c3, c4.keep hs⟩
theorem TxsAt.stays {lo hi : Nat} {w w' : World} {v : Value} {l : List Td} (h : TxsAt lo hi w v l) (hb : Below w.heap.size w w') : TxsAt lo hi w' v l := h.keep fun b _ _ hlt => hb.block b hlt
theorem TxsAt.wide {lo hi lo' hi' : Nat} {w : World} {v : Value} {l : List Td} (h : TxsAt lo hi w v l) (hl : lo' ≤ lo) (hh : hi ≤ hi') : TxsAt lo' hi' w v l := by
  obtain ⟨a, cap, h1, h2, h3⟩ := h
  refine ⟨a, cap, h1, h2, fun hp => ?_⟩
  obtain ⟨b, off, ha, hl', hh', hc⟩ := h3 hp
  refine ⟨b, off, ha, by omega, by omega, fun i hi => ?_⟩
  obtain ⟨c1, c2, a', c', c3, c4⟩ := hc i hi
  exact ⟨c1, c2, a', c', c3, c4.wide hl hh⟩

def WfM (m : Md) : Prop := WfCh m.s ∧ ∀ i, i < m.x.length → WfRw (tAt m.x i).w

/-- The three lists of a state. -/
structure MAt (lo hi : Nat) (w : World) (vs vt ve : Value) (m : Md) : Prop where
  s : ChainsAt lo hi w vs m.s
  x : TxsAt lo hi w vt m.x
  h : EvsAt lo hi w ve m.h
theorem MAt.stays {lo hi : Nat} {w w' : World} {vs vt ve : Value} {m : Md} (h : MAt lo hi w vs vt ve m) (hb : Below w.heap.size w w') : MAt lo hi w' vs vt ve m := ⟨h.s.stays hb, h.x.stays hb, h.h.stays hb⟩

structure SmallM (m : Md) : Prop where
  s : Small m.s
  x : m.x.length ≤ 1048576
  w : ∀ i, i < m.x.length → (tAt m.x i).w.length ≤ 1048576
  h : m.h.length ≤ 1048576

/-- The rows l lie in block b. -/
def OwnW (w : World) (b : Nat) (l : List Rw) : Prop := ∃ f, RowOf w b 111 (l.length * 3) f ∧ ∀ i, i < l.length → f (i * 3) = .int .i64 (rAt l i).t ∧ f (i * 3 + 1) = .int .i64 (rAt l i).r ∧ f (i * 3 + 2) = .int .i64 (rAt l i).v
/-- The events l lie in block b. -/
def OwnE (w : World) (b : Nat) (l : List Ed) : Prop := ∃ f, RowOf w b 101 (l.length * 6) f ∧ ∀ i, i < l.length → f (i * 6) = .int .i64 (eAt l i).k ∧ f (i * 6 + 1) = .int .i64 (eAt l i).x ∧ f (i * 6 + 2) = .int .i64 (eAt l i).t ∧ f (i * 6 + 3) = .int .i64 (eAt l i).r ∧ f (i * 6 + 4) = .int .i64 (eAt l i).v ∧ f (i * 6 + 5) = .int .i64 (eAt l i).a

theorem OwnW.of_block {w w' : World} {b : Nat} {l : List Rw} (h : OwnW w b l) (e : w'.heap[b]? = w.heap[b]?) : OwnW w' b l := by
  obtain ⟨f, h1, h2⟩ := h
  exact ⟨f, h1.of_block e, h2⟩
theorem OwnW.lt {w : World} {b : Nat} {l : List Rw} (h : OwnW w b l) : b < w.heap.size := by
  obtain ⟨f, h1, _⟩ := h
  exact h1.lt
theorem OwnE.of_block {w w' : World} {b : Nat} {l : List Ed} (h : OwnE w b l) (e : w'.heap[b]? = w.heap[b]?) : OwnE w' b l := by
  obtain ⟨f, h1, h2⟩ := h
  exact ⟨f, h1.of_block e, h2⟩
theorem OwnE.lt {w : World} {b : Nat} {l : List Ed} (h : OwnE w b l) : b < w.heap.size := by
  obtain ⟨f, h1, _⟩ := h
  exact h1.lt
theorem OwnW.rows {w : World} {b lo hi c : Nat} {l : List Rw} (h : OwnW w b l) (hlo : lo ≤ b) (hhi : b < hi) (hm : l.length ≤ 1048576) : RowsAt lo hi w (.slice (some ⟨b, 0, none⟩) l.length c) l := by
  obtain ⟨f, h1, h2⟩ := h
  refine ⟨_, _, rfl, by unfold maxLen; omega, fun hp => ⟨b, 0, rfl, hlo, hhi, fun i hi => ?_⟩⟩
  have g1 := h1.cell (show i * 3 < l.length * 3 by omega)
  have g2 := h1.cell (show i * 3 + 1 < l.length * 3 by omega)
  have g3 := h1.cell (show i * 3 + 2 < l.length * 3 by omega)
  rw [(h2 i hi).1] at g1
  rw [(h2 i hi).2.1] at g2
  rw [(h2 i hi).2.2] at g3
  exact ⟨by simpa using g1, by simpa using g2, by simpa using g3⟩
theorem OwnE.evs {w : World} {b lo hi c : Nat} {l : List Ed} (h : OwnE w b l) (hlo : lo ≤ b) (hhi : b < hi) (hm : l.length ≤ 1048576) : EvsAt lo hi w (.slice (some ⟨b, 0, none⟩) l.length c) l := by
  obtain ⟨f, h1, h2⟩ := h
  refine ⟨_, _, rfl, by unfold maxLen; omega, fun hp => ⟨b, 0, rfl, hlo, hhi, fun i hi => ?_⟩⟩
  obtain ⟨e0, e1, e2, e3, e4, e5⟩ := h2 i hi
  have g0 := h1.cell (show i * 6 < l.length * 6 by omega)
  have g1 := h1.cell (show i * 6 + 1 < l.length * 6 by omega)
  have g2 := h1.cell (show i * 6 + 2 < l.length * 6 by omega)
  have g3 := h1.cell (show i * 6 + 3 < l.length * 6 by omega)
  have g4 := h1.cell (show i * 6 + 4 < l.length * 6 by omega)
  have g5 := h1.cell (show i * 6 + 5 < l.length * 6 by omega)
  rw [e0] at g0
  rw [e1] at g1
  rw [e2] at g2
  rw [e3] at g3
  rw [e4] at g4
  rw [e5] at g5
  exact ⟨by simpa using g0, by simpa using g1, by simpa using g2, by simpa using g3, by simpa using g4, by simpa using g5⟩

/-- The transactions l, owned: the outer row in block b, the i-th list in block Bs i, all of them apart. -/
def OwnT2 (lo hi : Nat) (w : World) (b : Nat) (Bs : Nat → Nat) (l : List Td) : Prop :=
  lo ≤ b ∧ b < hi ∧ ∃ f, RowOf w b 97 (l.length * 3) f ∧
    (∀ i, i < l.length → f (i * 3) = .int .i64 (tAt l i).i ∧ f (i * 3 + 1) = .int .i64 (tAt l i).s ∧ (∃ c, (tAt l i).w.length ≤ c ∧ f (i * 3 + 2) = .slice (some ⟨Bs i, 0, none⟩) (tAt l i).w.length c) ∧ OwnW w (Bs i) (tAt l i).w ∧ lo ≤ Bs i ∧ Bs i < hi ∧ Bs i ≠ b) ∧
    ∀ i j, i < j → j < l.length → Bs i ≠ Bs j

theorem OwnT2.keep {lo hi : Nat} {w w' : World} {b : Nat} {Bs : Nat → Nat} {l : List Td} (h : OwnT2 lo hi w b Bs l) (hs : ∀ k, lo ≤ k → k < hi → k < w.heap.size → w'.heap[k]? = w.heap[k]?) : OwnT2 lo hi w' b Bs l := by
  obtain ⟨h1, h2, f, h3, h4, h5⟩ := h
  refine ⟨h1, h2, f, h3.of_block (hs b h1 h2 h3.lt), fun i hi => ?_, h5⟩
  obtain ⟨g1, g2, g3, g4, g5, g6, g7⟩ := h4 i hi
  exact ⟨g1, g2, g3, g4.of_block (hs _ g5 g6 g4.lt), g5, g6, g7⟩
theorem OwnT2.stays {lo hi : Nat} {w w' : World} {b : Nat} {Bs : Nat → Nat} {l : List Td} (h : OwnT2 lo hi w b Bs l) (hb : Below w.heap.size w w') : OwnT2 lo hi w' b Bs l := h.keep fun k _ _ hlt => hb.block k hlt
theorem OwnT2.wide {lo hi lo' hi' : Nat} {w : World} {b : Nat} {Bs : Nat → Nat} {l : List Td} (h : OwnT2 lo hi w b Bs l) (hl : lo' ≤ lo) (hh : hi ≤ hi') : OwnT2 lo' hi' w b Bs l := by
  obtain ⟨h1, h2, f, h3, h4, h5⟩ := h
  refine ⟨by omega, by omega, f, h3, fun i hi => ?_, h5⟩
  obtain ⟨g1, g2, g3, g4, g5, g6, g7⟩ := h4 i hi
  exact ⟨g1, g2, g3, g4, by omega, by omega, g7⟩
theorem OwnT2.txs {lo hi : Nat} {w : World} {b c : Nat} {Bs : Nat → Nat} {l : List Td} (h : OwnT2 lo hi w b Bs l) (hn : l.length ≤ 1048576) (hw : ∀ i, i < l.length → (tAt l i).w.length ≤ 1048576) : TxsAt lo hi w (.slice (some ⟨b, 0, none⟩) l.length c) l := by
  obtain ⟨h1, h2, f, h3, h4, _⟩ := h
  refine ⟨_, _, rfl, by unfold maxLen; omega, fun hp => ⟨b, 0, rfl, h1, h2, fun i hi => ?_⟩⟩
  obtain ⟨g1, g2, ⟨ci, _, g3⟩, g4, g5, g6, g7⟩ := h4 i hi
  have e1 := h3.cell (show i * 3 < l.length * 3 by omega)
  have e2 := h3.cell (show i * 3 + 1 < l.length * 3 by omega)
  have e3 := h3.cell (show i * 3 + 2 < l.length * 3 by omega)
  rw [g1] at e1
  rw [g2] at e2
  rw [g3] at e3
  exact ⟨by simpa using e1, by simpa using e2, _, _, by simpa using e3, g4.rows g5 g6 (hw i hi)⟩

theorem seven_kept {w x y : World} {a1 a2 a3 a4 a5 a6 a7 a8 a9 aa ab ac : Addr} {v1 v2 v3 v4 v5 v6 v7 v8 v9 va vb vc : Value} (h : Below w.heap.size w x ∧ x.cell? a1 = some v1 ∧ x.cell? a2 = some v2 ∧ x.cell? a3 = some v3 ∧ x.cell? a4 = some v4 ∧ x.cell? a5 = some v5 ∧ x.cell? a6 = some v6 ∧ x.cell? a7 = some v7 ∧ x.cell? a8 = some v8 ∧ x.cell? a9 = some v9 ∧ x.cell? aa = some va ∧ x.cell? ab = some vb ∧ x.cell? ac = some vc) (hb : Below x.heap.size x y) :
    Below w.heap.size w y ∧ y.cell? a1 = some v1 ∧ y.cell? a2 = some v2 ∧ y.cell? a3 = some v3 ∧ y.cell? a4 = some v4 ∧ y.cell? a5 = some v5 ∧ y.cell? a6 = some v6 ∧ y.cell? a7 = some v7 ∧ y.cell? a8 = some v8 ∧ y.cell? a9 = some v9 ∧ y.cell? aa = some va ∧ y.cell? ab = some vb ∧ y.cell? ac = some vc := by
  obtain ⟨h0, h1, h2, h3, h4, h5, h6, h7, h8, h9, ha, hb', hc⟩ := h
  exact ⟨h0.trans (hb.mono h0.size), cell_stays hb h1, cell_stays hb h2, cell_stays hb h3, cell_stays hb h4, cell_stays hb h5, cell_stays hb h6, cell_stays hb h7, cell_stays hb h8, cell_stays hb h9, cell_stays hb ha, cell_stays hb hb', cell_stays hb hc⟩

end Go.Proofs.YtmecbppblbmchaaGreatDoor
