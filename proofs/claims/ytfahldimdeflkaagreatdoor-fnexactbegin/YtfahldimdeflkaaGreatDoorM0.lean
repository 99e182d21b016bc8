import Derived.Test.YtfahldimdeflkaaGreatDoorMData
import Derived.Test.YtfahldimdeflkaaGreatDoorCopyG
import Derived.Test.YtfahldimdeflkaaGreatDoorRegLast
/- A state of the whole that a call has made: each list in a block of its own, free to be written, with whatever room; and the variable that holds it. -/
namespace Go.Proofs.YtfahldimdeflkaaGreatDoor
open Go.ChangeShapes Go.WideShapes Go.ChangeAt Go.RowKit Go.Sort
set_option linter.unusedVariables false
set_option maxRecDepth 100000

/-- What the transactions' own row holds. -/
def txc (l : List Td) (wv : Nat → Value) : List Value := tri l.length (fun i => .int .i64 (tAt l i).i) (fun i => .int .i64 (tAt l i).s) wv
/-- The lists of a state, but for the store's. -/
def mv (vt ve : Value) (wv : Nat → Value) : Nat → Value
  | 0 => vt
  | 1 => ve
  | i + 2 => wv i
/-- A state that a call owns; the store's blocks are s0 .. s1. -/
structure OwnM (base : Nat) (w : World) (s0 s1 : Nat) (vs vt ve : Value) (m : Md) (wv : Nat → Value) : Prop where
  s : OwnT s0 s1 w vs m.s
  sb : base ≤ s0 ∧ s0 ≤ s1 ∧ s1 ≤ w.heap.size
  x : w.ownsRow base 97 3 vt m.x.length (txc m.x wv)
  xw : ∀ i, i < m.x.length → w.ownsRow base 111 3 (wv i) (tAt m.x i).w.length (flat (tAt m.x i).w)
  h : w.ownsRow base 101 6 ve m.h.length (hexa m.h)
  far : ∀ a, a < m.x.length + 2 → ∀ g, (mv vt ve wv a).ownBlock = some g → g < s0 ∨ s1 ≤ g
  apart : ∀ a b, a < m.x.length + 2 → b < m.x.length + 2 → a ≠ b → ∀ g, (mv vt ve wv a).ownBlock = some g → (mv vt ve wv b).ownBlock ≠ some g

theorem owns_keepM {w w' : World} {base : Nat} {e : TypeId} {size : Nat} {v : Value} {n : Nat} {xs : List Value} (h : w.ownsRow base e size v n xs) (hk : ∀ g, v.ownBlock = some g → g < w.heap.size → w'.heap[g]? = w.heap[g]?) : w'.ownsRow base e size v n xs := by
  obtain ⟨h1, h2⟩ := h
  refine ⟨h1, ?_⟩
  rcases h2 with h2 | ⟨g, cap, cur, rfl, hg, hh, r⟩
  · exact .inl h2
  · exact .inr ⟨g, cap, cur, rfl, hg, by rw [hk g rfl (Array.getElem?_eq_some_iff.1 hh).1]; exact hh, r⟩
theorem owns_ltM {w : World} {base : Nat} {e : TypeId} {size : Nat} {v : Value} {n : Nat} {xs : List Value} (h : w.ownsRow base e size v n xs) {g : Nat} (hg : v.ownBlock = some g) : base ≤ g ∧ g < w.heap.size := h.lt g hg
theorem owns_sliceM {w : World} {base : Nat} {e : TypeId} {size : Nat} {v : Value} {n : Nat} {xs : List Value} (h : w.ownsRow base e size v n xs) : ∃ a c, v = .slice a n c := by
  rcases h.2 with ⟨rfl, rfl⟩ | ⟨g, cap, cur, rfl, _⟩
  · exact ⟨_, _, rfl⟩
  · exact ⟨_, _, rfl⟩
/-- A cell of an owned row. -/
theorem owns_cell {w : World} {base : Nat} {e : TypeId} {size : Nat} {a : Option Addr} {c n : Nat} {xs : List Value} (h : w.ownsRow base e size (.slice a n c) n xs) {j : Nat} {u : Value} (hu : xs[j]? = some u) : ∃ g, a = some ⟨g, 0, none⟩ ∧ base ≤ g ∧ w.cell? ⟨g, j, none⟩ = some u ∧ w.frozen? ⟨g, j, none⟩ = false := by
  have hj : j < n * size := by rw [← h.1]; exact (List.getElem?_eq_some_iff.1 hu).1
  rcases h.2 with ⟨_, rfl⟩ | ⟨g, cap, cur, e1, hg, hh, hnc, _, hsz, hx⟩
  · omega
  · injection e1 with e2 e3 e4
    subst e2
    refine ⟨g, rfl, hg, ?_, by simp [World.frozen?, hh]⟩
    have hjs : j < cur.size := by
      have := Nat.mul_le_mul_right size hnc
      omega
    have : cur.toList[j]? = some u := by
      rw [← hx, List.getElem?_take] at hu
      simpa [hj] using hu
    simp only [World.cell?, hh]
    simpa using this
/-- A cell of an owned row is written. -/
theorem owns_set {w : World} {base : Nat} {e : TypeId} {size g c n : Nat} {xs : List Value} (h : w.ownsRow base e size (.slice (some ⟨g, 0, none⟩) n c) n xs) (j : Nat) (u : Value) (hj : j < n * size) : (w.setCell ⟨g, j, none⟩ u).ownsRow base e size (.slice (some ⟨g, 0, none⟩) n c) n (xs.set j u) := by
  refine ⟨by simpa using h.1, ?_⟩
  rcases h.2 with ⟨e1, _⟩ | ⟨g', cap, cur, e1, hg, hh, hnc, hcm, hsz, hx⟩
  · cases e1
  · injection e1 with e2 e3 e4
    injection e2 with e2
    injection e2 with e5
    subst e5 e4
    refine .inr ⟨g, c, cur.setIfInBounds j u, rfl, hg, ?_, hnc, hcm, by simpa using hsz, ?_⟩
    · simp [World.setCell, Array.getElem?_modify, hh]
    · rw [← hx]
      simp only [Array.toList_setIfInBounds]
      rw [List.take_set]
theorem owns_new {w : World} {g : Nat} {e : TypeId} {cs : List Value} {n k base : Nat} (h : w.heap[g]? = some (.cells cs.toArray e (0, 0))) (hl : cs.length = n * k) (hn : n ≤ maxLen) (hb : base ≤ g) : w.ownsRow base e k (.slice (some ⟨g, 0, none⟩) n n) n cs :=
  ⟨hl, .inr ⟨g, n, cs.toArray, rfl, hb, h, Nat.le_refl _, hn, by simpa using hl, by rw [List.take_of_length_le (by simp; omega)]⟩⟩

theorem OwnM.keep {base s0 s1 : Nat} {w w' : World} {vs vt ve : Value} {m : Md} {wv : Nat → Value} (h : OwnM base w s0 s1 vs vt ve m wv) (hk : ∀ k, base ≤ k → k < w.heap.size → w'.heap[k]? = w.heap[k]?) (hz : w.heap.size ≤ w'.heap.size) : OwnM base w' s0 s1 vs vt ve m wv where
  s := h.s.keep fun k h1 h2 h3 => hk k (by have := h.sb; omega) h3
  sb := ⟨h.sb.1, h.sb.2.1, by have := h.sb; omega⟩
  x := owns_keepM h.x fun g hg hl => hk g (owns_ltM h.x hg).1 hl
  xw := fun i hi => owns_keepM (h.xw i hi) fun g hg hl => hk g (owns_ltM (h.xw i hi) hg).1 hl
  h := owns_keepM h.h fun g hg hl => hk g (owns_ltM h.h hg).1 hl
  far := h.far
  apart := h.apart
theorem OwnM.stays {base s0 s1 : Nat} {w w' : World} {vs vt ve : Value} {m : Md} {wv : Nat → Value} (h : OwnM base w s0 s1 vs vt ve m wv) (hb : Below w.heap.size w w') : OwnM base w' s0 s1 vs vt ve m wv := h.keep (fun k _ hl => hb.block k hl) hb.size

theorem rows_ofOwns {w : World} {base : Nat} {v : Value} {l : List Rw} (h : w.ownsRow base 111 3 v l.length (flat l)) (hn : l.length ≤ 1048580) : RowsAt base w.heap.size w v l := by
  obtain ⟨a, c, rfl⟩ := owns_sliceM h
  refine ⟨a, c, rfl, by unfold maxLen; omega, fun hp => ?_⟩
  obtain ⟨g, rfl, hb, hc, _⟩ := owns_cell h (flat_get l 0 hp).1
  refine ⟨g, 0, rfl, hb, cell_lt hc, fun i hi => ?_⟩
  obtain ⟨f0, f1, f2⟩ := flat_get l i hi
  obtain ⟨g0, e0, _, c0, _⟩ := owns_cell h f0
  obtain ⟨g1, e1, _, c1, _⟩ := owns_cell h f1
  obtain ⟨g2, e2, _, c2, _⟩ := owns_cell h f2
  cases e0; cases e1; cases e2
  exact ⟨by simpa using c0, by simpa using c1, by simpa using c2⟩
theorem evs_ofOwns {w : World} {base : Nat} {v : Value} {l : List Ed} (h : w.ownsRow base 101 6 v l.length (hexa l)) (hn : l.length ≤ 1048580) : EvsAt base w.heap.size w v l := by
  obtain ⟨a, c, rfl⟩ := owns_sliceM h
  refine ⟨a, c, rfl, by unfold maxLen; omega, fun hp => ?_⟩
  obtain ⟨g, rfl, hb, hc, _⟩ := owns_cell h (hexa_get l 0 hp).1
  refine ⟨g, 0, rfl, hb, cell_lt hc, fun i hi => ?_⟩
  obtain ⟨f0, f1, f2, f3, f4, f5⟩ := hexa_get l i hi
  obtain ⟨g0, e0, _, c0, _⟩ := owns_cell h f0
  obtain ⟨g1, e1, _, c1, _⟩ := owns_cell h f1
  obtain ⟨g2, e2, _, c2, _⟩ := owns_cell h f2
  obtain ⟨g3, e3, _, c3, _⟩ := owns_cell h f3
  obtain ⟨g4, e4, _, c4, _⟩ := owns_cell h f4
  obtain ⟨g5, e5, _, c5, _⟩ := owns_cell h f5
  cases e0; cases e1; cases e2; cases e3; cases e4; cases e5
  exact ⟨by simpa using c0, by simpa using c1, by simpa using c2, by simpa using c3, by simpa using c4, by simpa using c5⟩
theorem txc_get (l : List Td) (wv : Nat → Value) {i : Nat} (hi : i < l.length) : (txc l wv)[i * 3]? = some (.int .i64 (tAt l i).i) ∧ (txc l wv)[i * 3 + 1]? = some (.int .i64 (tAt l i).s) ∧ (txc l wv)[i * 3 + 2]? = some (wv i) := tri_get _ _ _ _ _ hi
theorem txs_ofOwns {w : World} {base : Nat} {v : Value} {l : List Td} {wv : Nat → Value} (h : w.ownsRow base 97 3 v l.length (txc l wv)) (hw : ∀ i, i < l.length → w.ownsRow base 111 3 (wv i) (tAt l i).w.length (flat (tAt l i).w)) (hn : l.length ≤ 1048580) (hn2 : ∀ i, i < l.length → (tAt l i).w.length ≤ 1048580) : TxsAt base w.heap.size w v l := by
  obtain ⟨a, c, rfl⟩ := owns_sliceM h
  refine ⟨a, c, rfl, by unfold maxLen; omega, fun hp => ?_⟩
  obtain ⟨g, rfl, hb, hc, _⟩ := owns_cell h (txc_get l wv hp).1
  refine ⟨g, 0, rfl, hb, cell_lt hc, fun i hi => ?_⟩
  obtain ⟨f0, f1, f2⟩ := txc_get l wv hi
  obtain ⟨g0, e0, _, c0, _⟩ := owns_cell h f0
  obtain ⟨g1, e1, _, c1, _⟩ := owns_cell h f1
  obtain ⟨g2, e2, _, c2, _⟩ := owns_cell h f2
  cases e0; cases e1; cases e2
  have hr := rows_ofOwns (hw i hi) (hn2 i hi)
  obtain ⟨a2, cc2, e3⟩ := owns_sliceM (hw i hi)
  rw [e3] at c2 hr
  exact ⟨by simpa using c0, by simpa using c1, a2, cc2, by simpa using c2, hr⟩
theorem OwnT.wide {lo hi lo' hi' : Nat} {w : World} {v : Value} {l : List Ch} (h : OwnT lo hi w v l) (hl : lo' ≤ lo) (hh : hi ≤ hi') : OwnT lo' hi' w v l := by
  rcases h with h | ⟨b, Bs, cap, h1, h2⟩
  · exact .inl h
  · exact .inr ⟨b, Bs, cap, h1, h2.wide hl hh⟩
theorem ChainsAt.wide' {lo hi lo' hi' : Nat} {w : World} {v : Value} {l : List Ch} (h : ChainsAt lo hi w v l) (hl : lo' ≤ lo) (hh : hi ≤ hi') : ChainsAt lo' hi' w v l := h.wide hl hh
/-- Bounded, with a little room. -/
structure SmallM' (m : Md) : Prop where
  s : Small m.s
  x : m.x.length ≤ 1048580
  w : ∀ i, i < m.x.length → (tAt m.x i).w.length ≤ 1048580
  h : m.h.length ≤ 1048580
theorem OwnM.mat {base s0 s1 : Nat} {w : World} {vs vt ve : Value} {m : Md} {wv : Nat → Value} (h : OwnM base w s0 s1 vs vt ve m wv) (hn : SmallM' m) : MAt base w.heap.size w vs vt ve m :=
  ⟨(h.s.chains hn.s).wide h.sb.1 h.sb.2.2, txs_ofOwns h.x h.xw hn.x hn.w, evs_ofOwns h.h hn.h⟩

/-- The cells of the variable that holds a state. -/
def bxf (vs : Value) (c n : Int) (vt ve : Value) : Nat → Value
  | 0 => vs
  | 1 => .int .i64 c
  | 2 => .int .i64 n
  | 3 => vt
  | _ => ve
/-- A state behind a pointer. -/
structure PtrM (base : Nat) (w : World) (B s0 s1 : Nat) (vs vt ve : Value) (m : Md) (wv : Nat → Value) : Prop where
  own : OwnM base w s0 s1 vs vt ve m wv
  box : RowOf w B 36 5 (bxf vs m.c m.n vt ve)
  base : base ≤ B
  far : B < s0 ∨ s1 ≤ B
  apart : ∀ a, a < m.x.length + 2 → (mv vt ve wv a).ownBlock ≠ some B
theorem PtrM.keep {base B s0 s1 : Nat} {w w' : World} {vs vt ve : Value} {m : Md} {wv : Nat → Value} (h : PtrM base w B s0 s1 vs vt ve m wv) (hk : ∀ k, base ≤ k → k < w.heap.size → w'.heap[k]? = w.heap[k]?) (hz : w.heap.size ≤ w'.heap.size) : PtrM base w' B s0 s1 vs vt ve m wv :=
  ⟨h.own.keep hk hz, h.box.of_block (hk _ h.base h.box.lt), h.base, h.far, h.apart⟩
theorem PtrM.stays {base B s0 s1 : Nat} {w w' : World} {vs vt ve : Value} {m : Md} {wv : Nat → Value} (h : PtrM base w B s0 s1 vs vt ve m wv) (hb : Below w.heap.size w w') : PtrM base w' B s0 s1 vs vt ve m wv := h.keep (fun k _ hl => hb.block k hl) hb.size

end Go.Proofs.YtfahldimdeflkaaGreatDoor
