import Derived.Test.YtmecbppblbmchaaGreatDoorStoreOf2
import Derived.Test.YtmecbppblbmchaaGreatDoorRegLast
/- impl.copyList at versions: the new block, whole. -/
namespace Go.Proofs.YtmecbppblbmchaaGreatDoor
open Go.ChangeShapes Go.WideShapes Go.ChangeAt Go.RowKit Go.Maps Go.Sort
set_option linter.unusedVariables false
set_option maxRecDepth 100000
attribute [local go_sem ↓] Go.wp_at_zero Go.wp_at_succ

theorem copyVer_block (a : Option Addr) (n cap : Nat) (cs : List Value) (w : World) (hn : n ≤ 1048576) (hl : cs.length = n * 2) (h1 : ∀ v ∈ cs, v.oneCell' = true) (hc : CellsAt w a n cs) :
    Calls Tryz.prog 104 #[.slice a n cap] w fun e w' => e = .returned (.slice (some ⟨w.heap.size, 0, none⟩) n n) ∧ w'.heap[w.heap.size]? = some (.cells cs.toArray 123 (0, 0)) ∧ Below w.heap.size w w' := by
  have hmk := make_vers n hn w
  have hsz : (Tryz.prog.info? 123).map (·.size) = some 2 := by kernel_rfl
  have hbA : Below w.heap.size w (w.alloc (.cells (madeCells #[.int .i64 0, .int .i64 0] (n * 2)) 123)) := (Below.refl _ _).alloc (Nat.le_refl _) _
  by_cases h0 : n = 0
  · have hcp := fun ty => run_copy_noneK (P := Tryz.prog) (w.alloc (.cells (madeCells #[.int .i64 0, .int .i64 0] (n * 2)) 123)) 92 92 ty 123 (some ⟨w.heap.size, 0, none⟩) a n n n cap 2 Tryz.underlying92 hsz (by rw [h0]; rfl)
    obtain ⟨W1, hW1⟩ : ∃ W1, w.alloc (.cells (madeCells #[.int .i64 0, .int .i64 0] (n * 2)) 123) = W1 := ⟨_, rfl⟩
    have hrow : W1.heap[w.heap.size]? = some (.cells cs.toArray 123 (0, 0)) := by
      rw [← hW1, Deep.blk_alloc_new]
      subst h0
      have : cs = [] := List.eq_nil_of_length_eq_zero (by omega)
      subst this
      simp [madeCells]
    rw [hW1] at hmk hcp hbA
    clear hc hsz hW1 h0 hl h1
    go_enter Tryz.func104, Tryz.ntmps104
    go_wp2
    go_ret
    exact ⟨rfl, hrow, hbA⟩
  · obtain ⟨b, off, rfl, hcc⟩ := hc (by omega)
    have hsrc : ∀ j v, cs[j]? = some v → (w.alloc (.cells (madeCells #[.int .i64 0, .int .i64 0] (n * 2)) 123)).cell? ((⟨b, off, none⟩ : Addr).add j) = some v := fun j v hj => by
      rw [add_at]; exact cell_stays hbA (hcc j v hj)
    have hcp := fun ty => run_copy_rowK (P := Tryz.prog) (w.alloc (.cells (madeCells #[.int .i64 0, .int .i64 0] (n * 2)) 123)) 92 92 ty 123 w.heap.size 0 n n ⟨b, off, none⟩ n cap _ _ cs n 2 Tryz.underlying92 hsz (Deep.blk_alloc_new _ _) (Nat.min_self _) hl hsrc (by rw [hl, size_madeCells]; omega) h1
    obtain ⟨W2, hW2⟩ : ∃ W2, (w.alloc (.cells (madeCells #[.int .i64 0, .int .i64 0] (n * 2)) 123)).setRow w.heap.size (((madeCells #[.int .i64 0, .int .i64 0] (n * 2)).toList.take 0 ++ cs ++ (madeCells #[.int .i64 0, .int .i64 0] (n * 2)).toList.drop (0 + cs.length)).toArray) = W2 := ⟨_, rfl⟩
    rw [hW2] at hcp
    have hrow : W2.heap[w.heap.size]? = some (.cells cs.toArray 123 (0, 0)) := by
      have := setRow_heap (w.alloc (.cells (madeCells #[.int .i64 0, .int .i64 0] (n * 2)) 123)) w.heap.size _ (((madeCells #[.int .i64 0, .int .i64 0] (n * 2)).toList.take 0 ++ cs ++ (madeCells #[.int .i64 0, .int .i64 0] (n * 2)).toList.drop (0 + cs.length)).toArray) _ _ (Deep.blk_alloc_new _ _)
      rw [hW2] at this
      rw [this]
      congr 2
      rw [List.drop_eq_nil_of_le (by rw [hl, Array.length_toList, size_madeCells]; omega)]
      simp
    have hb2 : Below w.heap.size w W2 := by
      rw [← hW2]
      exact hbA.trans ⟨rfl, rfl, rfl, by simp [World.setRow], fun k hk => setRow_other _ _ k _ (by omega)⟩
    clear hc hsz hcc hsrc hW2 hl h1
    go_enter Tryz.func104, Tryz.ntmps104
    go_wp2
    go_ret
    exact ⟨rfl, hrow, hb2⟩

theorem ownsRow_of_block {w : World} {base g n k : Nat} {T : TypeId} {cs : List Value} (hb : w.heap[g]? = some (.cells cs.toArray T (0, 0))) (hl : cs.length = n * k) (hg : base ≤ g) (hn : n ≤ maxLen) : w.ownsRow base T k (.slice (some ⟨g, 0, none⟩) n n) n cs :=
  ⟨hl, .inr ⟨g, n, cs.toArray, rfl, hg, hb, Nat.le_refl _, hn, by simpa using hl, by simp [← hl]⟩⟩

theorem vcells_snoc (l : List Vr) (h v : Int) : vcells (l ++ [(h, v)]) = vcells l ++ [.int .i64 h, .int .i64 v] := by simp [vcells]

theorem vcells_flatK (l : List Vr) : vcells l = flatK l := rfl

end Go.Proofs.YtmecbppblbmchaaGreatDoor

/- A store that is being built: its chains in a row of the call's own, each list in a row of its own, with whatever room. -/
namespace Go.Proofs.YtmecbppblbmchaaGreatDoor
open Go.ChangeShapes Go.WideShapes Go.ChangeAt Go.RowKit Go.Maps Go.Sort
set_option linter.unusedVariables false
set_option maxRecDepth 100000

/-- Nothing has turned but the blocks that are owned. -/
structure Turn (own : Nat → Prop) (w w' : World) : Prop where
  os : w'.os = w.os
  tape : w'.tape = w.tape
  output : w'.output = w.output
  size : w.heap.size ≤ w'.heap.size
  block : ∀ k, k < w.heap.size → ¬ own k → w'.heap[k]? = w.heap[k]?

theorem Turn.refl (own : Nat → Prop) (w : World) : Turn own w w := ⟨rfl, rfl, rfl, Nat.le_refl _, fun _ _ _ => rfl⟩
theorem Turn.trans {own own' : Nat → Prop} {a b c : World} (h : Turn own a b) (k : Turn own' b c) (ho : ∀ g, own' g → own g ∨ a.heap.size ≤ g) : Turn own a c :=
  ⟨k.os.trans h.os, k.tape.trans h.tape, k.output.trans h.output, Nat.le_trans h.size k.size, fun g hg hn => (k.block g (Nat.lt_of_lt_of_le hg h.size) fun e => by rcases ho g e with e | e; exact hn e; omega).trans (h.block g hg hn)⟩
theorem Turn.of_below {own : Nat → Prop} {w w' : World} (h : Below w.heap.size w w') : Turn own w w' := ⟨h.os, h.tape, h.output, h.size, fun k hk _ => h.block k hk⟩
theorem Turn.below {own : Nat → Prop} {w w' : World} (h : Turn own w w') {B : Nat} (hB : B ≤ w.heap.size) (ho : ∀ g, own g → B ≤ g) : Below B w w' := ⟨h.os, h.tape, h.output, h.size, fun k hk => h.block k (by omega) fun e => by have := ho k e; omega⟩
theorem Turn.grown {own : Nat → Prop} {a w w' : World} {row : Option Nat} (h : Turn own a w) (hg : w.grownBy w' row) (ho : ∀ g, row = some g → own g ∨ a.heap.size ≤ g) : Turn own a w' :=
  ⟨hg.os.trans h.os, hg.tape.trans h.tape, hg.output.trans h.output, Nat.le_trans h.size hg.size, fun g hl hn => (hg.block g (Nat.lt_of_lt_of_le hl h.size) fun e => by rcases ho g e.symm with e | e; exact hn e; omega).trans (h.block g hl hn)⟩
theorem Turn.setCell {own : Nat → Prop} {a w : World} (h : Turn own a w) {p : Addr} (hp : own p.block ∨ a.heap.size ≤ p.block) (u : Value) : Turn own a (w.setCell p u) :=
  ⟨h.os, h.tape, h.output, by have := h.size; simpa [World.setCell] using this, fun g hl hn => (Below.heap_setCell _ _ _ _ fun e => by subst e; rcases hp with e | e; exact hn e; omega).trans (h.block g hl hn)⟩
theorem Turn.alloc {own : Nat → Prop} {a w : World} (h : Turn own a w) (o : Obj) : Turn own a (w.alloc o) :=
  ⟨h.os, h.tape, h.output, by have := h.size; simp; omega, fun g hl hn => (Below.heap_alloc _ _ _ (Nat.lt_of_lt_of_le hl h.size)).trans (h.block g hl hn)⟩
theorem Turn.drew {own : Nat → Prop} {a w : World} (h : Turn own a w) : Turn own a w.drew := ⟨h.os, h.tape, h.output, h.size, h.block⟩
theorem Turn.mono {own own' : Nat → Prop} {a w : World} (h : Turn own a w) (ho : ∀ g, own g → own' g) : Turn own' a w := ⟨h.os, h.tape, h.output, h.size, fun g hl hn => h.block g hl fun e => hn (ho g e)⟩

abbrev Qc := Ch × Value
def q0 : Qc := (ch0, .slice none 0 0)
def qAt (q : List Qc) (i : Nat) : Qc := q.getD i q0
def qcell (x : Qc) : List Value := [.int .i64 x.1.t, .int .i64 x.1.r, x.2]
def qcells (q : List Qc) : List Value := q.flatMap qcell
def qchs (q : List Qc) : List Ch := q.map (·.1)

theorem qcells_length (q : List Qc) : (qcells q).length = q.length * 3 := by
  induction q with
  | nil => rfl
  | cons x q ih => simp only [qcells, List.flatMap_cons, List.length_append] at *; rw [ih]; simp [qcell]; omega
theorem qcells_snoc (q : List Qc) (x : Qc) : qcells (q ++ [x]) = qcells q ++ qcell x := by simp [qcells]
theorem qchs_length (q : List Qc) : (qchs q).length = q.length := by simp [qchs]
theorem qchs_snoc (q : List Qc) (x : Qc) : qchs (q ++ [x]) = qchs q ++ [x.1] := by simp [qchs]
theorem qchs_at (q : List Qc) {i : Nat} (hi : i < q.length) : cAt (qchs q) i = (qAt q i).1 := by simp [cAt, qAt, qchs, hi]
theorem qAt_lt (q : List Qc) {i : Nat} (hi : i < q.length) : qAt q i = q[i] := by simp [qAt, hi]
theorem qAt_snoc_lt (q : List Qc) (x : Qc) {i : Nat} (hi : i < q.length) : qAt (q ++ [x]) i = qAt q i := by simp [qAt, List.getElem?_append_left hi]
theorem qAt_snoc_eq (q : List Qc) (x : Qc) : qAt (q ++ [x]) q.length = x := by simp [qAt]
theorem qAt_set_eq (q : List Qc) (x : Qc) {i : Nat} (hi : i < q.length) : qAt (q.set i x) i = x := by simp [qAt, hi]
theorem qAt_set_ne (q : List Qc) (x : Qc) {i j : Nat} (h : i ≠ j) : qAt (q.set i x) j = qAt q j := by simp [qAt, List.getElem?_set_ne h]
theorem qchs_set (q : List Qc) (x : Qc) (i : Nat) : qchs (q.set i x) = (qchs q).set i x.1 := by simp [qchs, List.map_set]

theorem qcells_get : ∀ (q : List Qc) (i : Nat), i < q.length → (qcells q)[i * 3]? = some (.int .i64 (qAt q i).1.t) ∧ (qcells q)[i * 3 + 1]? = some (.int .i64 (qAt q i).1.r) ∧ (qcells q)[i * 3 + 2]? = some (qAt q i).2
  | [], i, h => absurd h (Nat.not_lt_zero _)
  | x :: q, 0, _ => by simp [qcells, qcell, qAt]
  | x :: q, i + 1, h => by
    obtain ⟨h1, h2, h3⟩ := qcells_get q i (by simpa using h)
    have e : ∀ j, (qcells (x :: q))[j + 3]? = (qcells q)[j]? := fun j => by
      show (qcell x ++ qcells q)[j + 3]? = _
      rw [List.getElem?_append_right (by simp [qcell])]
      simp [qcell]
    have a : qAt (x :: q) (i + 1) = qAt q i := by simp [qAt]
    rw [a]
    refine ⟨?_, ?_, ?_⟩
    · rw [show (i + 1) * 3 = i * 3 + 3 by omega, e, h1]
    · rw [show (i + 1) * 3 + 1 = i * 3 + 1 + 3 by omega, e, h2]
    · rw [show (i + 1) * 3 + 2 = i * 3 + 2 + 3 by omega, e, h3]

/-- Three cells set: the whole element. -/
theorem qcells_set : ∀ (q : List Qc) (i : Nat) (x : Qc), i < q.length → (((qcells q).set (i * 3) (.int .i64 x.1.t)).set (i * 3 + 1) (.int .i64 x.1.r)).set (i * 3 + 2) x.2 = qcells (q.set i x)
  | [], i, x, h => absurd h (Nat.not_lt_zero _)
  | y :: q, 0, x, _ => by simp [qcells, qcell]
  | y :: q, i + 1, x, h => by
    have ih := qcells_set q i x (by simpa using h)
    have e : ∀ (j : Nat) (v : Value) (xs : List Value), (qcell y ++ xs).set (j + 3) v = qcell y ++ xs.set j v := fun j v xs => by
      rw [List.set_append_right _ _ (by simp [qcell])]
      simp [qcell]
    show (((qcell y ++ qcells q).set ((i + 1) * 3) _).set ((i + 1) * 3 + 1) _).set ((i + 1) * 3 + 2) _ = qcell y ++ qcells (q.set i x)
    rw [show (i + 1) * 3 = i * 3 + 3 by omega, e, show i * 3 + 3 + 1 = i * 3 + 1 + 3 by omega, e, show i * 3 + 3 + 2 = i * 3 + 2 + 3 by omega, e, ih]
/-- The list's cell alone. -/
theorem qcells_setL : ∀ (q : List Qc) (i : Nat) (c : Ch) (v : Value), i < q.length → c.t = (qAt q i).1.t → c.r = (qAt q i).1.r → (qcells q).set (i * 3 + 2) v = qcells (q.set i (c, v)) := fun q i c v hi ht hr => by
  rw [← qcells_set q i (c, v) hi]
  obtain ⟨h1, h2, h3⟩ := qcells_get q i hi
  have hl := qcells_length q
  have e1 : (qcells q).set (i * 3) (.int .i64 c.t) = qcells q := by
    rw [ht]
    refine List.ext_getElem? fun j => ?_
    by_cases e : i * 3 = j
    · subst e; rw [List.getElem?_set_self (by omega), h1]
    · rw [List.getElem?_set_ne e]
  have e2 : (qcells q).set (i * 3 + 1) (.int .i64 c.r) = qcells q := by
    rw [hr]
    refine List.ext_getElem? fun j => ?_
    by_cases e : i * 3 + 1 = j
    · subst e; rw [List.getElem?_set_self (by omega), h2]
    · rw [List.getElem?_set_ne e]
  rw [e1, e2]

/-- The store that is being built. -/
structure OwnQ (base : Nat) (w : World) (ov : Value) (q : List Qc) : Prop where
  row : w.ownsRow base 94 3 ov q.length (qcells q)
  lists : ∀ i, i < q.length → w.ownsRow base 123 2 (qAt q i).2 (qAt q i).1.l.length (vcells (qAt q i).1.l)
  apart : ∀ i, i < q.length → ∀ g, (qAt q i).2.ownBlock = some g → ov.ownBlock ≠ some g ∧ ∀ j, j < q.length → j ≠ i → (qAt q j).2.ownBlock ≠ some g

/-- The blocks of the store that is being built, and of the variable that holds it. -/
def qown (bp : Nat) (ov : Value) (q : List Qc) (g : Nat) : Prop := g = bp ∨ ov.ownBlock = some g ∨ ∃ i, i < q.length ∧ (qAt q i).2.ownBlock = some g

theorem OwnQ.nil (base : Nat) (w : World) : OwnQ base w (.slice none 0 0) [] :=
  ⟨World.ownsRow_nil _ _ _ _, fun i hi => absurd hi (Nat.not_lt_zero _), fun i hi => absurd hi (Nat.not_lt_zero _)⟩

theorem owns_keep {w w' : World} {base : Nat} {e : TypeId} {size : Nat} {v : Value} {n : Nat} {xs : List Value} (h : w.ownsRow base e size v n xs) (hk : ∀ g, v.ownBlock = some g → g < w.heap.size → w'.heap[g]? = w.heap[g]?) : w'.ownsRow base e size v n xs := by
  obtain ⟨h1, h2⟩ := h
  refine ⟨h1, ?_⟩
  rcases h2 with h2 | ⟨g, cap, cur, rfl, h4, h5, h6⟩
  · exact .inl h2
  · exact .inr ⟨g, cap, cur, rfl, h4, (hk g rfl (Array.getElem?_eq_some_iff.1 h5).1).trans h5, h6⟩
theorem owns_lt {w : World} {base : Nat} {e : TypeId} {size : Nat} {v : Value} {n : Nat} {xs : List Value} (h : w.ownsRow base e size v n xs) {g : Nat} (hg : v.ownBlock = some g) : base ≤ g ∧ g < w.heap.size := h.lt g hg

theorem OwnQ.keep {base : Nat} {w w' : World} {ov : Value} {q : List Qc} (h : OwnQ base w ov q) (hk : ∀ g, (ov.ownBlock = some g ∨ ∃ i, i < q.length ∧ (qAt q i).2.ownBlock = some g) → g < w.heap.size → w'.heap[g]? = w.heap[g]?) : OwnQ base w' ov q :=
  ⟨owns_keep h.row fun g hg hl => hk g (.inl hg) hl, fun i hi => owns_keep (h.lists i hi) fun g hg hl => hk g (.inr ⟨i, hi, hg⟩) hl, h.apart⟩
theorem OwnQ.stays {base : Nat} {w w' : World} {ov : Value} {q : List Qc} (h : OwnQ base w ov q) (hb : Below w.heap.size w w') : OwnQ base w' ov q := h.keep fun g _ hl => hb.block g hl
theorem OwnQ.base {base : Nat} {w : World} {ov : Value} {q : List Qc} (h : OwnQ base w ov q) {g : Nat} (hg : ov.ownBlock = some g ∨ ∃ i, i < q.length ∧ (qAt q i).2.ownBlock = some g) : base ≤ g ∧ g < w.heap.size := by
  rcases hg with hg | ⟨i, hi, hg⟩
  · exact owns_lt h.row hg
  · exact owns_lt (h.lists i hi) hg

/-- The outer row has turned in no list's block; the list of one chain is another one. -/
theorem OwnQ.setList {base : Nat} {w w' : World} {ov : Value} {q : List Qc} {c : Nat} {ch : Ch} {lv : Value} (h : OwnQ base w ov q) (hc : c < q.length) (ht : ch.t = (qAt q c).1.t) (hr : ch.r = (qAt q c).1.r)
    (hrow : w'.ownsRow base 94 3 ov q.length ((qcells q).set (c * 3 + 2) lv)) (hl : w'.ownsRow base 123 2 lv ch.l.length (vcells ch.l))
    (hlv : ∀ g, lv.ownBlock = some g → (qAt q c).2.ownBlock = some g ∨ w.heap.size ≤ g) (hk : ∀ g, g < w.heap.size → ov.ownBlock ≠ some g → (qAt q c).2.ownBlock ≠ some g → w'.heap[g]? = w.heap[g]?) : OwnQ base w' ov (q.set c (ch, lv)) := by
  have hlen : (q.set c (ch, lv)).length = q.length := by simp
  refine ⟨by rw [hlen, ← qcells_setL q c ch lv hc ht hr]; exact hrow, fun i hi => ?_, fun i hi g hg => ?_⟩
  · rw [hlen] at hi
    by_cases e : i = c
    · subst e
      rw [qAt_set_eq _ _ hi]
      exact hl
    · rw [qAt_set_ne _ _ (Ne.symm e)]
      exact owns_keep (h.lists i hi) fun g hg hgl => hk g hgl (h.apart i hi g hg).1 ((h.apart i hi g hg).2 c hc (Ne.symm e))
  · rw [hlen] at hi ⊢
    have hovl : ∀ g, ov.ownBlock = some g → g < w.heap.size := fun g hg => (owns_lt h.row hg).2
    have hLl : ∀ i, i < q.length → ∀ g, (qAt q i).2.ownBlock = some g → g < w.heap.size := fun i hi g hg => (owns_lt (h.lists i hi) hg).2
    by_cases e : i = c
    · subst e
      rw [qAt_set_eq _ _ hi] at hg
      refine ⟨fun e => ?_, fun j hj hne e => ?_⟩
      · rcases hlv g hg with e2 | e2
        · exact (h.apart i hi g e2).1 e
        · have := hovl g e; omega
      · rw [qAt_set_ne _ _ (Ne.symm hne)] at e
        rcases hlv g hg with e2 | e2
        · exact (h.apart i hi g e2).2 j hj hne e
        · have := hLl j hj g e; omega
    · rw [qAt_set_ne _ _ (Ne.symm e)] at hg
      refine ⟨(h.apart i hi g hg).1, fun j hj hne e2 => ?_⟩
      by_cases ej : j = c
      · subst ej
        rw [qAt_set_eq _ _ hj] at e2
        rcases hlv g e2 with e3 | e3
        · exact (h.apart i hi g hg).2 j hj hne e3
        · have := hLl i hi g hg; omega
      · rw [qAt_set_ne _ _ (Ne.symm ej)] at e2
        exact (h.apart i hi g hg).2 j hj hne e2

/-- One chain more, behind all. -/
theorem OwnQ.snoc {base : Nat} {w w5 w6 : World} {ov ov' lv : Value} {q : List Qc} {c : Ch} (h : OwnQ base w ov q) (h5 : Below w.heap.size w w5) (hl : w5.ownsRow base 123 2 lv c.l.length (vcells c.l)) (hlg : ∀ g, lv.ownBlock = some g → w.heap.size ≤ g)
    (hrow : w6.ownsRow base 94 3 ov' (q.length + 1) (qcells q ++ [.int .i64 c.t, .int .i64 c.r, lv])) (hk : ∀ g, g < w5.heap.size → ov.ownBlock ≠ some g → w6.heap[g]? = w5.heap[g]?) (hov : ∀ g, ov'.ownBlock = some g → ov.ownBlock = some g ∨ w5.heap.size ≤ g) :
    OwnQ base w6 ov' (q ++ [(c, lv)]) := by
  have hz := h5.size
  have hlt : ∀ g, lv.ownBlock = some g → g < w5.heap.size := fun g hg => (owns_lt hl hg).2
  have hLt : ∀ i, i < q.length → ∀ g, (qAt q i).2.ownBlock = some g → g < w.heap.size := fun i hi g hg => (owns_lt (h.lists i hi) hg).2
  have hovt : ∀ g, ov.ownBlock = some g → g < w.heap.size := fun g hg => (owns_lt h.row hg).2
  have hlen : (q ++ [(c, lv)]).length = q.length + 1 := by simp
  refine ⟨by rw [hlen, qcells_snoc]; exact hrow, fun i hi => ?_, fun i hi g hg => ?_⟩
  · rw [hlen] at hi
    by_cases e : i = q.length
    · subst e
      rw [qAt_snoc_eq]
      exact owns_keep hl fun g hg hgl => hk g hgl fun e => by have := hlg g hg; have := hovt g e; omega
    · have hi' : i < q.length := by omega
      rw [qAt_snoc_lt _ _ hi']
      refine owns_keep (h.lists i hi') fun g hg hgl => ?_
      rw [hk g (by omega) (h.apart i hi' g hg).1, h5.block g hgl]
  · rw [hlen] at hi ⊢
    by_cases e : i = q.length
    · subst e
      rw [qAt_snoc_eq] at hg
      have g1 := hlg g hg
      have g2 := hlt g hg
      refine ⟨fun e => ?_, fun j hj hne e => ?_⟩
      · rcases hov g e with e | e
        · have := hovt g e; omega
        · omega
      · rw [qAt_snoc_lt _ _ (by omega)] at e
        have := hLt j (by omega) g e
        omega
    · have hi' : i < q.length := by omega
      rw [qAt_snoc_lt _ _ hi'] at hg
      have g1 := hLt i hi' g hg
      obtain ⟨a1, a2⟩ := h.apart i hi' g hg
      refine ⟨fun e' => ?_, fun j hj hne e' => ?_⟩
      · rcases hov g e' with e' | e'
        · exact a1 e'
        · omega
      · by_cases ej : j = q.length
        · subst ej
          rw [qAt_snoc_eq] at e'
          have := hlg g e'
          omega
        · rw [qAt_snoc_lt _ _ (by omega)] at e'
          exact a2 j (by omega) hne e'

/-- Chains that stand one behind the other change places. -/
def swp (q : List Qc) (i : Nat) : List Qc := (q.set (i + 1) (qAt q i)).set i (qAt q (i + 1))
theorem swp_length (q : List Qc) (i : Nat) : (swp q i).length = q.length := by simp [swp]
theorem swp_lo (q : List Qc) {i : Nat} (hi : i + 1 < q.length) : qAt (swp q i) i = qAt q (i + 1) := by rw [swp, qAt_set_eq _ _ (by simp; omega)]
theorem swp_hi (q : List Qc) {i : Nat} (hi : i + 1 < q.length) : qAt (swp q i) (i + 1) = qAt q i := by rw [swp, qAt_set_ne _ _ (by omega), qAt_set_eq _ _ hi]
theorem swp_other (q : List Qc) {i j : Nat} (h1 : j ≠ i) (h2 : j ≠ i + 1) : qAt (swp q i) j = qAt q j := by rw [swp, qAt_set_ne _ _ (by omega), qAt_set_ne _ _ (by omega)]

theorem swp_at (q : List Qc) {i : Nat} (hi : i + 1 < q.length) (j : Nat) (hj : j < q.length) : ∃ j', j' < q.length ∧ qAt (swp q i) j = qAt q j' ∧ (j' = if j = i then i + 1 else if j = i + 1 then i else j) := by
  by_cases e : j = i
  · subst e
    exact ⟨j + 1, hi, swp_lo q hi, by simp⟩
  · by_cases e2 : j = i + 1
    · subst e2
      exact ⟨i, by omega, swp_hi q hi, by simp⟩
    · exact ⟨j, hj, swp_other q e e2, by simp [e, e2]⟩

theorem OwnQ.swap {base : Nat} {w w' : World} {ov : Value} {q : List Qc} {i : Nat} (h : OwnQ base w ov q) (hi : i + 1 < q.length) (hrow : w'.ownsRow base 94 3 ov q.length (qcells (swp q i))) (hk : ∀ g, g < w.heap.size → ov.ownBlock ≠ some g → w'.heap[g]? = w.heap[g]?) : OwnQ base w' ov (swp q i) := by
  refine ⟨by rw [swp_length]; exact hrow, fun j hj => ?_, fun j hj g hg => ?_⟩
  · rw [swp_length] at hj
    obtain ⟨j', hj', e, _⟩ := swp_at q hi j hj
    rw [e]
    exact owns_keep (h.lists j' hj') fun g hg hgl => hk g hgl (h.apart j' hj' g hg).1
  · rw [swp_length] at hj ⊢
    obtain ⟨j', hj', e, e1⟩ := swp_at q hi j hj
    rw [e] at hg
    refine ⟨(h.apart j' hj' g hg).1, fun k hk' hne => ?_⟩
    obtain ⟨k', hk2, e3, e4⟩ := swp_at q hi k hk'
    rw [e3]
    refine (h.apart j' hj' g hg).2 k' hk2 fun e5 => ?_
    rw [e4, e1] at e5
    by_cases a1 : j = i <;> by_cases a2 : j = i + 1 <;> by_cases a3 : k = i <;> by_cases a4 : k = i + 1 <;> simp [a1, a2, a3, a4] at e5 <;> omega

end Go.Proofs.YtmecbppblbmchaaGreatDoor
