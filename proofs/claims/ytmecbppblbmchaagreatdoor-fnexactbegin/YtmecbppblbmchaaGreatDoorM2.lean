import Derived.Test.YtmecbppblbmchaaGreatDoorMData
import Derived.Test.YtmecbppblbmchaaGreatDoorCopyG
import Derived.Test.YtmecbppblbmchaaGreatDoorRegLast
import Derived.Deep.Onto
/- A state of the whole that a call has made: each list in a block of its own, free to be written, with whatever room; and the variable that holds it. -/
namespace Go.Proofs.YtmecbppblbmchaaGreatDoor
open Go.ChangeShapes Go.WideShapes Go.ChangeAt Go.RowKit Go.Sort
set_option linter.unusedVariables false
set_option maxRecDepth 100000

/-- What the transactions' own row holds. -/
def txc (l : List Td) (wv : Nat → Value) : List Value := tri l.length (fun i => .int .i64 (tAt l i).i) (fun i => .int .i64 (tAt l i).s) wv
/-- The lists of a state, but for the store's. -/
def mv (vt ve : Value) (wv : Nat → Value) : Nat → Value
  | 0 => vt
  | 1 => ve
  | i + 2 => wv i
/-- A state that a call owns; the store's blocks are s0 .. s1. -/
structure OwnM (base : Nat) (w : World) (s0 s1 : Nat) (vs vt ve : Value) (m : Md) (wv : Nat → Value) : Prop where
  s : OwnT s0 s1 w vs m.s
  sb : base ≤ s0 ∧ s0 ≤ s1 ∧ s1 ≤ w.heap.size
  x : w.ownsRow base 97 3 vt m.x.length (txc m.x wv)
  xw : ∀ i, i < m.x.length → w.ownsRow base 111 3 (wv i) (tAt m.x i).w.length (flat (tAt m.x i).w)
  h : w.ownsRow base 101 6 ve m.h.length (hexa m.h)
  far : ∀ a, a < m.x.length + 2 → ∀ g, (mv vt ve wv a).ownBlock = some g → g < s0 ∨ s1 ≤ g
  apart : ∀ a b, a < m.x.length + 2 → b < m.x.length + 2 → a ≠ b → ∀ g, (mv vt ve wv a).ownBlock = some g → (mv vt ve wv b).ownBlock ≠ some g

theorem owns_keepM {w w' : World} {base : Nat} {e : TypeId} {size : Nat} {v : Value} {n : Nat} {xs : List Value} (h : w.ownsRow base e size v n xs) (hk : ∀ g, v.ownBlock = some g → g < w.heap.size → w'.heap[g]? = w.heap[g]?) : w'.ownsRow base e size v n xs := by
  obtain ⟨h1, h2⟩ := h
  refine ⟨h1, ?_⟩
  rcases h2 with h2 | ⟨g, cap, cur, rfl, hg, hh, r⟩
  · exact .inl h2
  · exact .inr ⟨g, cap, cur, rfl, hg, by rw [hk g rfl (Array.getElem?_eq_some_iff.1 hh).1]; exact hh, r⟩
theorem owns_ltM {w : World} {base : Nat} {e : TypeId} {size : Nat} {v : Value} {n : Nat} {xs : List Value} (h : w.ownsRow base e size v n xs) {g : Nat} (hg : v.ownBlock = some g) : base ≤ g ∧ g < w.heap.size := h.lt g hg
theorem owns_sliceM {w : World} {base : Nat} {e : TypeId} {size : Nat} {v : Value} {n : Nat} {xs : List Value} (h : w.ownsRow base e size v n xs) : ∃ a c, v = .slice a n c := by
  rcases h.2 with ⟨rfl, rfl⟩ | ⟨g, cap, cur, rfl, _⟩
  · exact ⟨_, _, rfl⟩
  · exact ⟨_, _, rfl⟩
/-- A cell of an owned row. -/
theorem owns_cell {w : World} {base : Nat} {e : TypeId} {size : Nat} {a : Option Addr} {c n : Nat} {xs : List Value} (h : w.ownsRow base e size (.slice a n c) n xs) {j : Nat} {u : Value} (hu : xs[j]? = some u) : ∃ g, a = some ⟨g, 0, none⟩ ∧ base ≤ g ∧ w.cell? ⟨g, j, none⟩ = some u ∧ w.frozen? ⟨g, j, none⟩ = false := by
  have hj : j < n * size := by rw [← h.1]; exact (List.getElem?_eq_some_iff.1 hu).1
  rcases h.2 with ⟨_, rfl⟩ | ⟨g, cap, cur, e1, hg, hh, hnc, _, hsz, hx⟩
  · omega
  · injection e1 with e2 e3 e4
    subst e2
    refine ⟨g, rfl, hg, ?_, by simp [World.frozen?, hh]⟩
    have hjs : j < cur.size := by
      have := Nat.mul_le_mul_right size hnc
      omega
    have : cur.toList[j]? = some u := by
      rw [← hx, List.getElem?_take] at hu
      simpa [hj] using hu
    simp only [World.cell?, hh]
    simpa using this
/-- A cell of an owned row is written. -/
theorem owns_set {w : World} {base : Nat} {e : TypeId} {size g c n : Nat} {xs : List Value} (h : w.ownsRow base e size (.slice (some ⟨g, 0, none⟩) n c) n xs) (j : Nat) (u : Value) (hj : j < n * size) : (w.setCell ⟨g, j, none⟩ u).ownsRow base e size (.slice (some ⟨g, 0, none⟩) n c) n (xs.set j u) := by
  refine ⟨by simpa using h.1, ?_⟩
  rcases h.2 with ⟨e1, _⟩ | ⟨g', cap, cur, e1, hg, hh, hnc, hcm, hsz, hx⟩
  · cases e1
  · injection e1 with e2 e3 e4
    injection e2 with e2
    injection e2 with e5
    subst e5 e4
    refine .inr ⟨g, c, cur.setIfInBounds j u, rfl, hg, ?_, hnc, hcm, by simpa using hsz, ?_⟩
    · simp [World.setCell, Array.getElem?_modify, hh]
    · rw [← hx]
      simp only [Array.toList_setIfInBounds]
      rw [List.take_set]
theorem owns_new {w : World} {g : Nat} {e : TypeId} {cs : List Value} {n k base : Nat} (h : w.heap[g]? = some (.cells cs.toArray e (0, 0))) (hl : cs.length = n * k) (hn : n ≤ maxLen) (hb : base ≤ g) : w.ownsRow base e k (.slice (some ⟨g, 0, none⟩) n n) n cs :=
  ⟨hl, .inr ⟨g, n, cs.toArray, rfl, hb, h, Nat.le_refl _, hn, by simpa using hl, by rw [List.take_of_length_le (by simp; omega)]⟩⟩

theorem OwnM.keep {base s0 s1 : Nat} {w w' : World} {vs vt ve : Value} {m : Md} {wv : Nat → Value} (h : OwnM base w s0 s1 vs vt ve m wv) (hk : ∀ k, base ≤ k → k < w.heap.size → w'.heap[k]? = w.heap[k]?) (hz : w.heap.size ≤ w'.heap.size) : OwnM base w' s0 s1 vs vt ve m wv where
  s := h.s.keep fun k h1 h2 h3 => hk k (by have := h.sb; omega) h3
  sb := ⟨h.sb.1, h.sb.2.1, by have := h.sb; omega⟩
  x := owns_keepM h.x fun g hg hl => hk g (owns_ltM h.x hg).1 hl
  xw := fun i hi => owns_keepM (h.xw i hi) fun g hg hl => hk g (owns_ltM (h.xw i hi) hg).1 hl
  h := owns_keepM h.h fun g hg hl => hk g (owns_ltM h.h hg).1 hl
  far := h.far
  apart := h.apart
theorem OwnM.stays {base s0 s1 : Nat} {w w' : World} {vs vt ve : Value} {m : Md} {wv : Nat → Value} (h : OwnM base w s0 s1 vs vt ve m wv) (hb : Below w.heap.size w w') : OwnM base w' s0 s1 vs vt ve m wv := h.keep (fun k _ hl => hb.block k hl) hb.size

theorem rows_ofOwns {w : World} {base : Nat} {v : Value} {l : List Rw} (h : w.ownsRow base 111 3 v l.length (flat l)) (hn : l.length ≤ 1048580) : RowsAt base w.heap.size w v l := by
  obtain ⟨a, c, rfl⟩ := owns_sliceM h
  refine ⟨a, c, rfl, by unfold maxLen; omega, fun hp => ?_⟩
  obtain ⟨g, rfl, hb, hc, _⟩ := owns_cell h (flat_get l 0 hp).1
  refine ⟨g, 0, rfl, hb, cell_lt hc, fun i hi => ?_⟩
  obtain ⟨f0, f1, f2⟩ := flat_get l i hi
  obtain ⟨g0, e0, _, c0, _⟩ := owns_cell h f0
  obtain ⟨g1, e1, _, c1, _⟩ := owns_cell h f1
  obtain ⟨g2, e2, _, c2, _⟩ := owns_cell h f2
  cases e0; cases e1; cases e2
  exact ⟨by simpa using c0, by simpa using c1, by simpa using c2⟩
theorem evs_ofOwns {w : World} {base : Nat} {v : Value} {l : List Ed} (h : w.ownsRow base 101 6 v l.length (hexa l)) (hn : l.length ≤ 1048580) : EvsAt base w.heap.size w v l := by
  obtain ⟨a, c, rfl⟩ := owns_sliceM h
  refine ⟨a, c, rfl, by unfold maxLen; omega, fun hp => ?_⟩
  obtain ⟨g, rfl, hb, hc, _⟩ := owns_cell h (hexa_get l 0 hp).1
  refine ⟨g, 0, rfl, hb, cell_lt hc, fun i hi => ?_⟩
  obtain ⟨f0, f1, f2, f3, f4, f5⟩ := hexa_get l i hi
  obtain ⟨g0, e0, _, c0, _⟩ := owns_cell h f0
  obtain ⟨g1, e1, _, c1, _⟩ := owns_cell h f1
  obtain ⟨g2, e2, _, c2, _⟩ := owns_cell h f2
  obtain ⟨g3, e3, _, c3, _⟩ := owns_cell h f3
  obtain ⟨g4, e4, _, c4, _⟩ := owns_cell h f4
  obtain ⟨g5, e5, _, c5, _⟩ := owns_cell h f5
  cases e0; cases e1; cases e2; cases e3; cases e4; cases e5
  exact ⟨by simpa using c0, by simpa using c1, by simpa using c2, by simpa using c3, by simpa using c4, by simpa using c5⟩
theorem txc_get (l : List Td) (wv : Nat → Value) {i : Nat} (hi : i < l.length) : (txc l wv)[i * 3]? = some (.int .i64 (tAt l i).i) ∧ (txc l wv)[i * 3 + 1]? = some (.int .i64 (tAt l i).s) ∧ (txc l wv)[i * 3 + 2]? = some (wv i) := tri_get _ _ _ _ _ hi
theorem txs_ofOwns {w : World} {base : Nat} {v : Value} {l : List Td} {wv : Nat → Value} (h : w.ownsRow base 97 3 v l.length (txc l wv)) (hw : ∀ i, i < l.length → w.ownsRow base 111 3 (wv i) (tAt l i).w.length (flat (tAt l i).w)) (hn : l.length ≤ 1048580) (hn2 : ∀ i, i < l.length → (tAt l i).w.length ≤ 1048580) : TxsAt base w.heap.size w v l := by
  obtain ⟨a, c, rfl⟩ := owns_sliceM h
  refine ⟨a, c, rfl, by unfold maxLen; omega, fun hp => ?_⟩
  obtain ⟨g, rfl, hb, hc, _⟩ := owns_cell h (txc_get l wv hp).1
  refine ⟨g, 0, rfl, hb, cell_lt hc, fun i hi => ?_⟩
  obtain ⟨f0, f1, f2⟩ := txc_get l wv hi
  obtain ⟨g0, e0, _, c0, _⟩ := owns_cell h f0
  obtain ⟨g1, e1, _, c1, _⟩ := owns_cell h f1
  obtain ⟨g2, e2, _, c2, _⟩ := owns_cell h f2
  cases e0; cases e1; cases e2
  have hr := rows_ofOwns (hw i hi) (hn2 i hi)
  obtain ⟨a2, cc2, e3⟩ := owns_sliceM (hw i hi)
  rw [e3] at c2 hr
  exact ⟨by simpa using c0, by simpa using c1, a2, cc2, by simpa using c2, hr⟩
theorem OwnT.wide {lo hi lo' hi' : Nat} {w : World} {v : Value} {l : List Ch} (h : OwnT lo hi w v l) (hl : lo' ≤ lo) (hh : hi ≤ hi') : OwnT lo' hi' w v l := by
  rcases h with h | ⟨b, Bs, cap, h1, h2⟩
  · exact .inl h
  · exact .inr ⟨b, Bs, cap, h1, h2.wide hl hh⟩
theorem ChainsAt.wide' {lo hi lo' hi' : Nat} {w : World} {v : Value} {l : List Ch} (h : ChainsAt lo hi w v l) (hl : lo' ≤ lo) (hh : hi ≤ hi') : ChainsAt lo' hi' w v l := h.wide hl hh
/-- Bounded, with a little room. -/
structure SmallM' (m : Md) : Prop where
  s : Small m.s
  x : m.x.length ≤ 1048580
  w : ∀ i, i < m.x.length → (tAt m.x i).w.length ≤ 1048580
  h : m.h.length ≤ 1048580
theorem OwnM.mat {base s0 s1 : Nat} {w : World} {vs vt ve : Value} {m : Md} {wv : Nat → Value} (h : OwnM base w s0 s1 vs vt ve m wv) (hn : SmallM' m) : MAt base w.heap.size w vs vt ve m :=
  ⟨(h.s.chains hn.s).wide h.sb.1 h.sb.2.2, txs_ofOwns h.x h.xw hn.x hn.w, evs_ofOwns h.h hn.h⟩

/-- The cells of the variable that holds a state. -/
def bxf (vs : Value) (c n : Int) (vt ve : Value) : Nat → Value
  | 0 => vs
  | 1 => .int .i64 c
  | 2 => .int .i64 n
  | 3 => vt
  | _ => ve
/-- A state behind a pointer. -/
structure PtrM (base : Nat) (w : World) (B s0 s1 : Nat) (vs vt ve : Value) (m : Md) (wv : Nat → Value) : Prop where
  own : OwnM base w s0 s1 vs vt ve m wv
  box : RowOf w B 36 5 (bxf vs m.c m.n vt ve)
  base : base ≤ B
  far : B < s0 ∨ s1 ≤ B
  apart : ∀ a, a < m.x.length + 2 → (mv vt ve wv a).ownBlock ≠ some B
theorem PtrM.keep {base B s0 s1 : Nat} {w w' : World} {vs vt ve : Value} {m : Md} {wv : Nat → Value} (h : PtrM base w B s0 s1 vs vt ve m wv) (hk : ∀ k, base ≤ k → k < w.heap.size → w'.heap[k]? = w.heap[k]?) (hz : w.heap.size ≤ w'.heap.size) : PtrM base w' B s0 s1 vs vt ve m wv :=
  ⟨h.own.keep hk hz, h.box.of_block (hk _ h.base h.box.lt), h.base, h.far, h.apart⟩
theorem PtrM.stays {base B s0 s1 : Nat} {w w' : World} {vs vt ve : Value} {m : Md} {wv : Nat → Value} (h : PtrM base w B s0 s1 vs vt ve m wv) (hb : Below w.heap.size w w') : PtrM base w' B s0 s1 vs vt ve m wv := h.keep (fun k _ hl => hb.block k hl) hb.size

end Go.Proofs.YtmecbppblbmchaaGreatDoor

/- A state behind a pointer is turned: its numbers, one transaction more, one event more. -/
namespace Go.Proofs.YtmecbppblbmchaaGreatDoor
open Go.ChangeShapes Go.WideShapes Go.ChangeAt Go.RowKit Go.Sort
set_option linter.unusedVariables false
set_option maxRecDepth 100000

theorem apart_upd {N N' S : Nat} {f f' : Nat → Option Nat} (hap : ∀ a b, a < N → b < N → a ≠ b → ∀ g, f a = some g → f b ≠ some g) (hlt : ∀ a, a < N → ∀ g, f a = some g → g < S)
    (hf : ∀ a, a < N' → ∀ g, f' a = some g → (a < N ∧ f a = some g) ∨ S ≤ g) (hu : ∀ a b, a < N' → b < N' → a ≠ b → ∀ g, S ≤ g → f' a = some g → f' b ≠ some g) :
    ∀ a b, a < N' → b < N' → a ≠ b → ∀ g, f' a = some g → f' b ≠ some g := fun a b ha hb hab g h1 h2 => by
  rcases hf a ha g h1 with ⟨a1, a2⟩ | a1
  · rcases hf b hb g h2 with ⟨b1, b2⟩ | b1
    · exact hap a b a1 b1 hab g a2 b2
    · have := hlt a a1 g a2
      omega
  · exact hu a b ha hb hab g a1 h1 h2
theorem OwnM.lt {base s0 s1 : Nat} {w : World} {vs vt ve : Value} {m : Md} {wv : Nat → Value} (h : OwnM base w s0 s1 vs vt ve m wv) : ∀ a, a < m.x.length + 2 → ∀ g, (mv vt ve wv a).ownBlock = some g → base ≤ g ∧ g < w.heap.size := fun a ha g hg => by
  match a, ha with
  | 0, _ => exact owns_ltM h.x hg
  | 1, _ => exact owns_ltM h.h hg
  | i + 2, hi => exact owns_ltM (h.xw i (by omega)) hg
theorem tAt_snoc_lt (l : List Td) (t : Td) {i : Nat} (hi : i < l.length) : tAt (l ++ [t]) i = tAt l i := by simp [tAt, List.getD, List.getElem?_append_left hi]
theorem tAt_snoc_eq (l : List Td) (t : Td) : tAt (l ++ [t]) l.length = t := by simp [tAt, List.getD]
theorem eAt_snoc_lt (l : List Ed) (t : Ed) {i : Nat} (hi : i < l.length) : eAt (l ++ [t]) i = eAt l i := by simp [eAt, List.getD, List.getElem?_append_left hi]
def nilV : Value := .slice none 0 0
/-- The lists, with one more behind the first n. -/
def wsnoc (n : Nat) (wv : Nat → Value) : Nat → Value := fun j => if j < n then wv j else nilV
theorem txc_snoc (l : List Td) (i s : Int) (wv : Nat → Value) : txc (l ++ [⟨i, s, []⟩]) (wsnoc l.length wv) = txc l wv ++ [.int .i64 i, .int .i64 s, nilV] := by
  simp only [txc, tri, List.length_append, List.length_cons, List.length_nil, Nat.zero_add, List.range_succ, List.flatMap_append, List.flatMap_cons, List.flatMap_nil, List.append_nil]
  congr 1
  · rw [List.flatMap_def, List.flatMap_def]
    congr 1
    apply List.map_congr_left
    intro a ha
    have ha' : a < l.length := List.mem_range.1 ha
    rw [tAt_snoc_lt l _ ha']
    simp [wsnoc, ha']
  · rw [tAt_snoc_eq]
    simp [wsnoc]
theorem hexa_snoc (l : List Ed) (x : Ed) : hexa (l ++ [x]) = hexa l ++ [.int .i64 x.k, .int .i64 x.x, .int .i64 x.t, .int .i64 x.r, .int .i64 x.v, .int .i64 x.a] := by simp [hexa]

section
variable {base B s0 s1 : Nat} {w : World} {vs vt ve : Value} {m : Md} {wv : Nat → Value}

/-- The box's cells as they stand. -/
theorem PtrM.cell (h : PtrM base w B s0 s1 vs vt ve m wv) {j : Nat} (hj : j < 5) : w.cell? ⟨B, j, none⟩ = some (bxf vs m.c m.n vt ve j) ∧ w.frozen? ⟨B, j, none⟩ = false := ⟨h.box.cell hj, h.box.frozen j⟩
theorem PtrM.mbox (h : PtrM base w B s0 s1 vs vt ve m wv) : MBox w B vs m.c m.n vt ve := ⟨(h.cell (j := 0) (by omega)).1, (h.cell (j := 1) (by omega)).1, (h.cell (j := 2) (by omega)).1, (h.cell (j := 3) (by omega)).1, (h.cell (j := 4) (by omega)).1⟩

theorem PtrM.setC (h : PtrM base w B s0 s1 vs vt ve m wv) (c : Int) : PtrM base (w.setCell ⟨B, 1, none⟩ (.int .i64 c)) B s0 s1 vs vt ve { m with c := c } wv := by
  have hne : ∀ g, g ≠ B → (w.setCell ⟨B, 1, none⟩ (.int .i64 c)).heap[g]? = w.heap[g]? := fun g hg => Below.heap_setCell _ _ _ _ hg
  have hz := size_setCell w ⟨B, 1, none⟩ (.int .i64 c)
  refine ⟨⟨h.own.s.keep fun k h1 h2 h3 => hne k (by have := h.far; omega), ⟨h.own.sb.1, h.own.sb.2.1, by rw [hz]; exact h.own.sb.2.2⟩, owns_keepM h.own.x fun g hg hl => hne g (fun e => h.apart 0 (by omega) (e ▸ hg)), fun i hi => owns_keepM (h.own.xw i hi) fun g hg hl => hne g (fun e => h.apart (i + 2) (by have : i < m.x.length := hi; omega) (e ▸ hg)), owns_keepM h.own.h fun g hg hl => hne g (fun e => h.apart 1 (by omega) (e ▸ hg)), h.own.far, h.own.apart⟩, ?_, h.base, h.far, h.apart⟩
  refine (h.box.set 1 (.int .i64 c)).congr fun j hj => ?_
  match j, hj with
  | 0, _ => rfl
  | 1, _ => rfl
  | 2, _ => rfl
  | 3, _ => rfl
  | 4, _ => rfl
theorem PtrM.setN (h : PtrM base w B s0 s1 vs vt ve m wv) (n : Int) : PtrM base (w.setCell ⟨B, 2, none⟩ (.int .i64 n)) B s0 s1 vs vt ve { m with n := n } wv := by
  have hne : ∀ g, g ≠ B → (w.setCell ⟨B, 2, none⟩ (.int .i64 n)).heap[g]? = w.heap[g]? := fun g hg => Below.heap_setCell _ _ _ _ hg
  have hz := size_setCell w ⟨B, 2, none⟩ (.int .i64 n)
  refine ⟨⟨h.own.s.keep fun k h1 h2 h3 => hne k (by have := h.far; omega), ⟨h.own.sb.1, h.own.sb.2.1, by rw [hz]; exact h.own.sb.2.2⟩, owns_keepM h.own.x fun g hg hl => hne g (fun e => h.apart 0 (by omega) (e ▸ hg)), fun i hi => owns_keepM (h.own.xw i hi) fun g hg hl => hne g (fun e => h.apart (i + 2) (by have : i < m.x.length := hi; omega) (e ▸ hg)), owns_keepM h.own.h fun g hg hl => hne g (fun e => h.apart 1 (by omega) (e ▸ hg)), h.own.far, h.own.apart⟩, ?_, h.base, h.far, h.apart⟩
  refine (h.box.set 2 (.int .i64 n)).congr fun j hj => ?_
  match j, hj with
  | 0, _ => rfl
  | 1, _ => rfl
  | 2, _ => rfl
  | 3, _ => rfl
  | 4, _ => rfl

/-- One event more. -/
theorem PtrM.pushEv (h : PtrM base w B s0 s1 vs vt ve m wv) {w1 w5 : World} (hb : Below w.heap.size w w1) (hg : w1.grownBy w5 ve.ownBlock) {x : Ed} {gg cap : Nat}
    (hown : w5.ownsRow base 101 6 (.slice (some ⟨gg, 0, none⟩) (m.h.length + 1) cap) (m.h.length + 1) (hexa m.h ++ [.int .i64 x.k, .int .i64 x.x, .int .i64 x.t, .int .i64 x.r, .int .i64 x.v, .int .i64 x.a])) (hat : ve.ownBlock = some gg ∨ w.heap.size ≤ gg) :
    PtrM base (w5.setCell ⟨B, 4, none⟩ (.slice (some ⟨gg, 0, none⟩) (m.h.length + 1) cap)) B s0 s1 vs vt (.slice (some ⟨gg, 0, none⟩) (m.h.length + 1) cap) { m with h := m.h ++ [x] } wv ∧ Below base w (w5.setCell ⟨B, 4, none⟩ (.slice (some ⟨gg, 0, none⟩) (m.h.length + 1) cap)) := by
  have hz1 := hb.size
  have hz5 := hg.size
  have hBl := h.box.lt
  have hk5 : ∀ g, g < w.heap.size → ve.ownBlock ≠ some g → w5.heap[g]? = w.heap[g]? := fun g h1 h2 => (hg.block g (by omega) (fun e => h2 e.symm)).trans (hb.block g h1)
  have hk : ∀ g, g < w.heap.size → ve.ownBlock ≠ some g → g ≠ B → (w5.setCell ⟨B, 4, none⟩ (.slice (some ⟨gg, 0, none⟩) (m.h.length + 1) cap)).heap[g]? = w.heap[g]? := fun g h1 h2 h3 => (Below.heap_setCell _ _ _ _ h3).trans (hk5 g h1 h2)
  have hggB : gg ≠ B := fun e => by
    rcases hat with h1 | h1
    · exact h.apart 1 (by omega) (e ▸ h1)
    · omega
  have hgg : ve.ownBlock ≠ some B := h.apart 1 (by omega)
  refine ⟨⟨⟨h.own.s.keep fun k h1 h2 h3 => hk k h3 (fun e => by have := h.own.far 1 (by omega) k e; omega) (by have := h.far; omega), ⟨h.own.sb.1, h.own.sb.2.1, by rw [size_setCell]; have := h.own.sb; omega⟩, owns_keepM h.own.x fun g hg' hl => hk g hl (fun e => h.own.apart 0 1 (by omega) (by omega) (by omega) g hg' e) (fun e => h.apart 0 (by omega) (e ▸ hg')), fun i hi => owns_keepM (h.own.xw i hi) fun g hg' hl => hk g hl (fun e => h.own.apart (i + 2) 1 (by have : i < m.x.length := hi; omega) (by omega) (by omega) g hg' e) (fun e => h.apart (i + 2) (by have : i < m.x.length := hi; omega) (e ▸ hg')), ?_, ?_, ?_⟩, ?_, h.base, h.far, ?_⟩, ?_⟩
  · show World.ownsRow _ base 101 6 _ (m.h ++ [x]).length (hexa (m.h ++ [x]))
    rw [hexa_snoc, List.length_append]
    exact owns_keepM hown fun g hg' hl => Below.heap_setCell _ _ _ _ (fun e => hggB ((show g = gg by simpa [Value.ownBlock] using hg'.symm).symm.trans e))
  · intro a ha g hg'
    match a, ha with
    | 0, _ => exact h.own.far 0 (by omega) g hg'
    | 1, _ =>
      have e : g = gg := by simpa [mv, Value.ownBlock] using hg'.symm
      rcases hat with h1 | h1
      · exact h.own.far 1 (by omega) g (e ▸ h1)
      · have := h.own.sb; exact .inr (by omega)
    | i + 2, hi => exact h.own.far (i + 2) hi g hg'
  · refine apart_upd (N := m.x.length + 2) (S := w.heap.size) (f := fun a => (mv vt ve wv a).ownBlock) h.own.apart (fun a ha g hg' => (h.own.lt a ha g hg').2) (fun a ha g hg' => ?_) (fun a b ha hb' hab g hS h1 h2 => ?_)
    · match a, ha with
      | 0, _ => exact .inl ⟨by omega, hg'⟩
      | 1, _ =>
        have e : g = gg := by simpa [mv, Value.ownBlock] using hg'.symm
        rcases hat with h1 | h1
        · exact .inl ⟨by omega, e ▸ h1⟩
        · exact .inr (by omega)
      | i + 2, hi => exact .inl ⟨hi, hg'⟩
    · have key : ∀ c, c < m.x.length + 2 → (mv vt (.slice (some ⟨gg, 0, none⟩) (m.h.length + 1) cap) wv c).ownBlock = some g → c = 1 := fun c hc e => by
        match c, hc, e with
        | 0, _, e => have := (h.own.lt 0 (by omega) g e).2; omega
        | 1, _, e => rfl
        | i + 2, hi, e => have := (h.own.lt (i + 2) hi g e).2; omega
      exact hab ((key a ha h1).trans (key b hb' h2).symm)
  · have hb5 := (h.box.of_block (hk5 B hBl hgg)).set 4 (.slice (some ⟨gg, 0, none⟩) (m.h.length + 1) cap)
    refine hb5.congr fun j hj => ?_
    match j, hj with
    | 0, _ => rfl
    | 1, _ => rfl
    | 2, _ => rfl
    | 3, _ => rfl
    | 4, _ => rfl
  · intro a ha e
    match a, ha, e with
    | 0, _, e => exact h.apart 0 (by omega) e
    | 1, _, e => exact hggB (by simpa [mv, Value.ownBlock] using e)
    | i + 2, hi, e => exact h.apart (i + 2) hi e
  · have b1 : Below base w w1 := hb.mono (by have := h.base; omega)
    have b5 : Below base w1 w5 := ⟨hg.os, hg.tape, hg.output, hg.size, fun k hk' => hg.block k (by have := h.base; omega) (fun e => by have := (owns_ltM h.own.h e.symm).1; omega)⟩
    exact (b1.trans b5).setCell (p := ⟨B, 4, none⟩) h.base _

/-- One transaction more. -/
theorem PtrM.pushTx (h : PtrM base w B s0 s1 vs vt ve m wv) {w1 w5 : World} (hb : Below w.heap.size w w1) (hg : w1.grownBy w5 vt.ownBlock) {i s : Int} {gg cap : Nat}
    (hown : w5.ownsRow base 97 3 (.slice (some ⟨gg, 0, none⟩) (m.x.length + 1) cap) (m.x.length + 1) (txc m.x wv ++ [.int .i64 i, .int .i64 s, nilV])) (hat : vt.ownBlock = some gg ∨ w.heap.size ≤ gg) :
    PtrM base (w5.setCell ⟨B, 3, none⟩ (.slice (some ⟨gg, 0, none⟩) (m.x.length + 1) cap)) B s0 s1 vs (.slice (some ⟨gg, 0, none⟩) (m.x.length + 1) cap) ve { m with x := m.x ++ [⟨i, s, []⟩] } (wsnoc m.x.length wv) ∧ Below base w (w5.setCell ⟨B, 3, none⟩ (.slice (some ⟨gg, 0, none⟩) (m.x.length + 1) cap)) := by
  have hz1 := hb.size
  have hz5 := hg.size
  have hBl := h.box.lt
  have hk5 : ∀ g, g < w.heap.size → vt.ownBlock ≠ some g → w5.heap[g]? = w.heap[g]? := fun g h1 h2 => (hg.block g (by omega) (fun e => h2 e.symm)).trans (hb.block g h1)
  have hk : ∀ g, g < w.heap.size → vt.ownBlock ≠ some g → g ≠ B → (w5.setCell ⟨B, 3, none⟩ (.slice (some ⟨gg, 0, none⟩) (m.x.length + 1) cap)).heap[g]? = w.heap[g]? := fun g h1 h2 h3 => (Below.heap_setCell _ _ _ _ h3).trans (hk5 g h1 h2)
  have hggB : gg ≠ B := fun e => by
    rcases hat with h1 | h1
    · exact h.apart 0 (by omega) (e ▸ h1)
    · omega
  have hgg : vt.ownBlock ≠ some B := h.apart 0 (by omega)
  have hlen : (m.x ++ [(⟨i, s, []⟩ : Td)]).length = m.x.length + 1 := by simp
  have old : ∀ a, a < m.x.length + 2 → a ≠ 0 → (mv (.slice (some ⟨gg, 0, none⟩) (m.x.length + 1) cap) ve (wsnoc m.x.length wv) a).ownBlock = (mv vt ve wv a).ownBlock := fun a ha h0 => by
    match a, ha, h0 with
    | 1, _, _ => rfl
    | j + 2, hj, _ => simp only [mv, wsnoc, if_pos (show j < m.x.length by omega)]
  have new : (mv (.slice (some ⟨gg, 0, none⟩) (m.x.length + 1) cap) ve (wsnoc m.x.length wv) (m.x.length + 2)).ownBlock = none := by simp [mv, wsnoc, nilV, Value.ownBlock]
  refine ⟨⟨⟨h.own.s.keep fun k h1 h2 h3 => hk k h3 (fun e => by have := h.own.far 0 (by omega) k e; omega) (by have := h.far; omega), ⟨h.own.sb.1, h.own.sb.2.1, by rw [size_setCell]; have := h.own.sb; omega⟩, ?_, fun j hj => ?_, owns_keepM h.own.h fun g hg' hl => hk g hl (fun e => h.own.apart 1 0 (by omega) (by omega) (by omega) g hg' e) (fun e => h.apart 1 (by omega) (e ▸ hg')), ?_, ?_⟩, ?_, h.base, h.far, ?_⟩, ?_⟩
  · show World.ownsRow _ base 97 3 _ (m.x ++ [(⟨i, s, []⟩ : Td)]).length (txc (m.x ++ [(⟨i, s, []⟩ : Td)]) (wsnoc m.x.length wv))
    rw [txc_snoc, hlen]
    exact owns_keepM hown fun g hg' hl => Below.heap_setCell _ _ _ _ (fun e => hggB ((show g = gg by simpa [Value.ownBlock] using hg'.symm).symm.trans e))
  · have hj' : j < m.x.length + 1 := by rw [← hlen]; exact hj
    show World.ownsRow _ base 111 3 (wsnoc m.x.length wv j) (tAt (m.x ++ [(⟨i, s, []⟩ : Td)]) j).w.length (flat (tAt (m.x ++ [(⟨i, s, []⟩ : Td)]) j).w)
    by_cases e : j < m.x.length
    · rw [tAt_snoc_lt _ _ e, wsnoc, if_pos e]
      exact owns_keepM (h.own.xw j e) fun g hg' hl => hk g hl (fun e' => h.own.apart (j + 2) 0 (by omega) (by omega) (by omega) g hg' e') (fun e' => h.apart (j + 2) (by omega) (e' ▸ hg'))
    · obtain rfl : j = m.x.length := by omega
      rw [tAt_snoc_eq, wsnoc, if_neg e]
      exact World.ownsRow_nil _ _ _ _
  · intro a ha g hg'
    have ha' : a < m.x.length + 1 + 2 := by rw [← hlen]; exact ha
    by_cases e0 : a = 0
    · subst e0
      have e : g = gg := by simpa [mv, Value.ownBlock] using hg'.symm
      rcases hat with h1 | h1
      · exact h.own.far 0 (by omega) g (e ▸ h1)
      · have := h.own.sb; exact .inr (by omega)
    · by_cases e1 : a = m.x.length + 2
      · subst e1; rw [new] at hg'; cases hg'
      · rw [old a (by omega) e0] at hg'
        exact h.own.far a (by omega) g hg'
  · refine apart_upd (N := m.x.length + 2) (S := w.heap.size) (f := fun a => (mv vt ve wv a).ownBlock) h.own.apart (fun a ha g hg' => (h.own.lt a ha g hg').2) (fun a ha g hg' => ?_) (fun a b ha hb' hab g hS h1 h2 => ?_)
    · have ha' : a < m.x.length + 1 + 2 := by rw [← hlen]; exact ha
      by_cases e0 : a = 0
      · subst e0
        have e : g = gg := by simpa [mv, Value.ownBlock] using hg'.symm
        rcases hat with h1 | h1
        · exact .inl ⟨by omega, e ▸ h1⟩
        · exact .inr (by omega)
      · by_cases e1 : a = m.x.length + 2
        · subst e1; rw [new] at hg'; cases hg'
        · rw [old a (by omega) e0] at hg'
          exact .inl ⟨by omega, hg'⟩
    · have key : ∀ c, c < (m.x ++ [(⟨i, s, []⟩ : Td)]).length + 2 → (mv (.slice (some ⟨gg, 0, none⟩) (m.x.length + 1) cap) ve (wsnoc m.x.length wv) c).ownBlock = some g → c = 0 := fun c hc e => by
        rw [hlen] at hc
        by_cases e0 : c = 0
        · exact e0
        · by_cases e1 : c = m.x.length + 2
          · subst e1; rw [new] at e; cases e
          · rw [old c (by omega) e0] at e
            have := (h.own.lt c (by omega) g e).2
            omega
      exact hab ((key a ha h1).trans (key b hb' h2).symm)
  · have hb5 := (h.box.of_block (hk5 B hBl hgg)).set 3 (.slice (some ⟨gg, 0, none⟩) (m.x.length + 1) cap)
    refine hb5.congr fun j hj => ?_
    match j, hj with
    | 0, _ => rfl
    | 1, _ => rfl
    | 2, _ => rfl
    | 3, _ => rfl
    | 4, _ => rfl
  · intro a ha e
    have ha' : a < m.x.length + 1 + 2 := by rw [← hlen]; exact ha
    by_cases e0 : a = 0
    · subst e0
      exact hggB (by simpa [mv, Value.ownBlock] using e)
    · by_cases e1 : a = m.x.length + 2
      · subst e1; rw [new] at e; cases e
      · rw [old a (by omega) e0] at e
        exact h.apart a (by omega) e
  · have b1 : Below base w w1 := hb.mono (by have := h.base; omega)
    have b5 : Below base w1 w5 := ⟨hg.os, hg.tape, hg.output, hg.size, fun k hk' => hg.block k (by have := h.base; omega) (fun e => by have := (owns_ltM h.own.x e.symm).1; omega)⟩
    exact (b1.trans b5).setCell (p := ⟨B, 3, none⟩) h.base _
end
end Go.Proofs.YtmecbppblbmchaaGreatDoor
