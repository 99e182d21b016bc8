import Derived.Test.YtmecbppblbmchaaGreatDoorM0
import Derived.Deep.Onto
import Derived.Deep.AppendLies
import Derived.Deep.AppendSrc
/- A state behind a pointer is turned: its numbers, one transaction more, one event more. -/
namespace Go.Proofs.YtmecbppblbmchaaGreatDoor
open Go.ChangeShapes Go.WideShapes Go.ChangeAt Go.RowKit Go.Sort
set_option linter.unusedVariables false
set_option maxRecDepth 100000

theorem apart_upd {N N' S : Nat} {f f' : Nat → Option Nat} (hap : ∀ a b, a < N → b < N → a ≠ b → ∀ g, f a = some g → f b ≠ some g) (hlt : ∀ a, a < N → ∀ g, f a = some g → g < S)
    (hf : ∀ a, a < N' → ∀ g, f' a = some g → (a < N ∧ f a = some g) ∨ S ≤ g) (hu : ∀ a b, a < N' → b < N' → a ≠ b → ∀ g, S ≤ g → f' a = some g → f' b ≠ some g) :
    ∀ a b, a < N' → b < N' → a ≠ b → ∀ g, f' a = some g → f' b ≠ some g := fun a b ha hb hab g h1 h2 => by
  rcases hf a ha g h1 with ⟨a1, a2⟩ | a1
  · rcases hf b hb g h2 with ⟨b1, b2⟩ | b1
    · exact hap a b a1 b1 hab g a2 b2
    · have := hlt a a1 g a2
      omega
  · exact hu a b ha hb hab g a1 h1 h2
theorem OwnM.lt {base s0 s1 : Nat} {w : World} {vs vt ve : Value} {m : Md} {wv : Nat → Value} (h : OwnM base w s0 s1 vs vt ve m wv) : ∀ a, a < m.x.length + 2 → ∀ g, (mv vt ve wv a).ownBlock = some g → base ≤ g ∧ g < w.heap.size := fun a ha g hg => by
  match a, ha with
  | 0, _ => exact owns_ltM h.x hg
  | 1, _ => exact owns_ltM h.h hg
  | i + 2, hi => exact owns_ltM (h.xw i (by omega)) hg
theorem tAt_snoc_lt (l : List Td) (t : Td) {i : Nat} (hi : i < l.length) : tAt (l ++ [t]) i = tAt l i := by simp [tAt, List.getD, List.getElem?_append_left hi]
theorem tAt_snoc_eq (l : List Td) (t : Td) : tAt (l ++ [t]) l.length = t := by simp [tAt, List.getD]
theorem eAt_snoc_lt (l : List Ed) (t : Ed) {i : Nat} (hi : i < l.length) : eAt (l ++ [t]) i = eAt l i := by simp [eAt, List.getD, List.getElem?_append_left hi]
def nilV : Value := .slice none 0 0
/-- The lists, with one more behind the first n. -/
def wsnoc (n : Nat) (wv : Nat → Value) : Nat → Value := fun j => if j < n then wv j else nilV
theorem txc_snoc (l : List Td) (i s : Int) (wv : Nat → Value) : txc (l ++ [⟨i, s, []⟩]) (wsnoc l.length wv) = txc l wv ++ [.int .i64 i, .int .i64 s, nilV] := by
  simp only [txc, tri, List.length_append, List.length_cons, List.length_nil, Nat.zero_add, List.range_succ, List.flatMap_append, List.flatMap_cons, List.flatMap_nil, List.append_nil]
  congr 1
  · rw [List.flatMap_def, List.flatMap_def]
    congr 1
    apply List.map_congr_left
    intro a ha
    have ha' : a < l.length := List.mem_range.1 ha
    rw [tAt_snoc_lt l _ ha']
    simp [wsnoc, ha']
  · rw [tAt_snoc_eq]
    simp [wsnoc]
theorem hexa_snoc (l : List Ed) (x : Ed) : hexa (l ++ [x]) = hexa l ++ [.int .i64 x.k, .int .i64 x.x, .int .i64 x.t, .int .i64 x.r, .int .i64 x.v, .int .i64 x.a] := by simp [hexa]

section
variable {base B s0 s1 : Nat} {w : World} {vs vt ve : Value} {m : Md} {wv : Nat → Value}

/-- The box's cells as they stand. -/
theorem PtrM.cell (h : PtrM base w B s0 s1 vs vt ve m wv) {j : Nat} (hj : j < 5) : w.cell? ⟨B, j, none⟩ = some (bxf vs m.c m.n vt ve j) ∧ w.frozen? ⟨B, j, none⟩ = false := ⟨h.box.cell hj, h.box.frozen j⟩
theorem PtrM.mbox (h : PtrM base w B s0 s1 vs vt ve m wv) : MBox w B vs m.c m.n vt ve := ⟨(h.cell (j := 0) (by omega)).1, (h.cell (j := 1) (by omega)).1, (h.cell (j := 2) (by omega)).1, (h.cell (j := 3) (by omega)).1, (h.cell (j := 4) (by omega)).1⟩

theorem PtrM.setC (h : PtrM base w B s0 s1 vs vt ve m wv) (c : Int) : PtrM base (w.setCell ⟨B, 1, none⟩ (.int .i64 c)) B s0 s1 vs vt ve { m with c := c } wv := by
  have hne : ∀ g, g ≠ B → (w.setCell ⟨B, 1, none⟩ (.int .i64 c)).heap[g]? = w.heap[g]? := fun g hg => Below.heap_setCell _ _ _ _ hg
  have hz := size_setCell w ⟨B, 1, none⟩ (.int .i64 c)
  refine ⟨⟨h.own.s.keep fun k h1 h2 h3 => hne k (by have := h.far; omega), ⟨h.own.sb.1, h.own.sb.2.1, by rw [hz]; exact h.own.sb.2.2⟩, owns_keepM h.own.x fun g hg hl => hne g (fun e => h.apart 0 (by omega) (e ▸ hg)), fun i hi => owns_keepM (h.own.xw i hi) fun g hg hl => hne g (fun e => h.apart (i + 2) (by have : i < m.x.length := hi; omega) (e ▸ hg)), owns_keepM h.own.h fun g hg hl => hne g (fun e => h.apart 1 (by omega) (e ▸ hg)), h.own.far, h.own.apart⟩, ?_, h.base, h.far, h.apart⟩
  refine (h.box.set 1 (.int .i64 c)).congr fun j hj => ?_
  match j, hj with
  | 0, _ => rfl
  | 1, _ => rfl
  | 2, _ => rfl
  | 3, _ => rfl
  | 4, _ => rfl
theorem PtrM.setN (h : PtrM base w B s0 s1 vs vt ve m wv) (n : Int) : PtrM base (w.setCell ⟨B, 2, none⟩ (.int .i64 n)) B s0 s1 vs vt ve { m with n := n } wv := by
  have hne : ∀ g, g ≠ B → (w.setCell ⟨B, 2, none⟩ (.int .i64 n)).heap[g]? = w.heap[g]? := fun g hg => Below.heap_setCell _ _ _ _ hg
  have hz := size_setCell w ⟨B, 2, none⟩ (.int .i64 n)
  refine ⟨⟨h.own.s.keep fun k h1 h2 h3 => hne k (by have := h.far; omega), ⟨h.own.sb.1, h.own.sb.2.1, by rw [hz]; exact h.own.sb.2.2⟩, owns_keepM h.own.x fun g hg hl => hne g (fun e => h.apart 0 (by omega) (e ▸ hg)), fun i hi => owns_keepM (h.own.xw i hi) fun g hg hl => hne g (fun e => h.apart (i + 2) (by have : i < m.x.length := hi; omega) (e ▸ hg)), owns_keepM h.own.h fun g hg hl => hne g (fun e => h.apart 1 (by omega) (e ▸ hg)), h.own.far, h.own.apart⟩, ?_, h.base, h.far, h.apart⟩
  refine (h.box.set 2 (.int .i64 n)).congr fun j hj => ?_
  match j, hj with
  | 0, _ => rfl
  | 1, _ => rfl
  | 2, _ => rfl
  | 3, _ => rfl
  | 4, _ => rfl

/-- One event more. -/
theorem PtrM.pushEv (h : PtrM base w B s0 s1 vs vt ve m wv) {w1 w5 : World} (hb : Below w.heap.size w w1) (hg : w1.grownBy w5 ve.ownBlock) {x : Ed} {gg cap : Nat}
    (hown : w5.ownsRow base 101 6 (.slice (some ⟨gg, 0, none⟩) (m.h.length + 1) cap) (m.h.length + 1) (hexa m.h ++ [.int .i64 x.k, .int .i64 x.x, .int .i64 x.t, .int .i64 x.r, .int .i64 x.v, .int .i64 x.a])) (hat : ve.ownBlock = some gg ∨ w.heap.size ≤ gg) :
    PtrM base (w5.setCell ⟨B, 4, none⟩ (.slice (some ⟨gg, 0, none⟩) (m.h.length + 1) cap)) B s0 s1 vs vt (.slice (some ⟨gg, 0, none⟩) (m.h.length + 1) cap) { m with h := m.h ++ [x] } wv ∧ Below base w (w5.setCell ⟨B, 4, none⟩ (.slice (some ⟨gg, 0, none⟩) (m.h.length + 1) cap)) := by
  have hz1 := hb.size
  have hz5 := hg.size
  have hBl := h.box.lt
  have hk5 : ∀ g, g < w.heap.size → ve.ownBlock ≠ some g → w5.heap[g]? = w.heap[g]? := fun g h1 h2 => (hg.block g (by omega) (fun e => h2 e.symm)).trans (hb.block g h1)
  have hk : ∀ g, g < w.heap.size → ve.ownBlock ≠ some g → g ≠ B → (w5.setCell ⟨B, 4, none⟩ (.slice (some ⟨gg, 0, none⟩) (m.h.length + 1) cap)).heap[g]? = w.heap[g]? := fun g h1 h2 h3 => (Below.heap_setCell _ _ _ _ h3).trans (hk5 g h1 h2)
  have hggB : gg ≠ B := fun e => by
    rcases hat with h1 | h1
    · exact h.apart 1 (by omega) (e ▸ h1)
    · omega
  have hgg : ve.ownBlock ≠ some B := h.apart 1 (by omega)
  refine ⟨⟨⟨h.own.s.keep fun k h1 h2 h3 => hk k h3 (fun e => by have := h.own.far 1 (by omega) k e; omega) (by have := h.far; omega), ⟨h.own.sb.1, h.own.sb.2.1, by rw [size_setCell]; have := h.own.sb; omega⟩, owns_keepM h.own.x fun g hg' hl => hk g hl (fun e => h.own.apart 0 1 (by omega) (by omega) (by omega) g hg' e) (fun e => h.apart 0 (by omega) (e ▸ hg')), fun i hi => owns_keepM (h.own.xw i hi) fun g hg' hl => hk g hl (fun e => h.own.apart (i + 2) 1 (by have : i < m.x.length := hi; omega) (by omega) (by omega) g hg' e) (fun e => h.apart (i + 2) (by have : i < m.x.length := hi; omega) (e ▸ hg')), ?_, ?_, ?_⟩, ?_, h.base, h.far, ?_⟩, ?_⟩
  · show World.ownsRow _ base 101 6 _ (m.h ++ [x]).length (hexa (m.h ++ [x]))
    rw [hexa_snoc, List.length_append]
    exact owns_keepM hown fun g hg' hl => Below.heap_setCell _ _ _ _ (fun e => hggB ((show g = gg by simpa [Value.ownBlock] using hg'.symm).symm.trans e))
  · intro a ha g hg'
    match a, ha with
    | 0, _ => exact h.own.far 0 (by omega) g hg'
    | 1, _ =>
      have e : g = gg := by simpa [mv, Value.ownBlock] using hg'.symm
      rcases hat with h1 | h1
      · exact h.own.far 1 (by omega) g (e ▸ h1)
      · have := h.own.sb; exact .inr (by omega)
    | i + 2, hi => exact h.own.far (i + 2) hi g hg'
  · refine apart_upd (N := m.x.length + 2) (S := w.heap.size) (f := fun a => (mv vt ve wv a).ownBlock) h.own.apart (fun a ha g hg' => (h.own.lt a ha g hg').2) (fun a ha g hg' => ?_) (fun a b ha hb' hab g hS h1 h2 => ?_)
    · match a, ha with
      | 0, _ => exact .inl ⟨by omega, hg'⟩
      | 1, _ =>
        have e : g = gg := by simpa [mv, Value.ownBlock] using hg'.symm
        rcases hat with h1 | h1
        · exact .inl ⟨by omega, e ▸ h1⟩
        · exact .inr (by omega)
      | i + 2, hi => exact .inl ⟨hi, hg'⟩
    · have key : ∀ c, c < m.x.length + 2 → (mv vt (.slice (some ⟨gg, 0, none⟩) (m.h.length + 1) cap) wv c).ownBlock = some g → c = 1 := fun c hc e => by
        match c, hc, e with
        | 0, _, e => have := (h.own.lt 0 (by omega) g e).2; omega
        | 1, _, e => rfl
        | i + 2, hi, e => have := (h.own.lt (i + 2) hi g e).2; omega
      exact hab ((key a ha h1).trans (key b hb' h2).symm)
  · have hb5 := (h.box.of_block (hk5 B hBl hgg)).set 4 (.slice (some ⟨gg, 0, none⟩) (m.h.length + 1) cap)
    refine hb5.congr fun j hj => ?_
    match j, hj with
    | 0, _ => rfl
    | 1, _ => rfl
    | 2, _ => rfl
    | 3, _ => rfl
    | 4, _ => rfl
  · intro a ha e
    match a, ha, e with
    | 0, _, e => exact h.apart 0 (by omega) e
    | 1, _, e => exact hggB (by simpa [mv, Value.ownBlock] using e)
    | i + 2, hi, e => exact h.apart (i + 2) hi e
  · have b1 : Below base w w1 := hb.mono (by have := h.base; omega)
    have b5 : Below base w1 w5 := ⟨hg.os, hg.tape, hg.output, hg.size, fun k hk' => hg.block k (by have := h.base; omega) (fun e => by have := (owns_ltM h.own.h e.symm).1; omega)⟩
    exact (b1.trans b5).setCell (p := ⟨B, 4, none⟩) h.base _

/-- One transaction more. -/
theorem PtrM.pushTx (h : PtrM base w B s0 s1 vs vt ve m wv) {w1 w5 : World} (hb : Below w.heap.size w w1) (hg : w1.grownBy w5 vt.ownBlock) {i s : Int} {gg cap : Nat}
    (hown : w5.ownsRow base 97 3 (.slice (some ⟨gg, 0, none⟩) (m.x.length + 1) cap) (m.x.length + 1) (txc m.x wv ++ [.int .i64 i, .int .i64 s, nilV])) (hat : vt.ownBlock = some gg ∨ w.heap.size ≤ gg) :
    PtrM base (w5.setCell ⟨B, 3, none⟩ (.slice (some ⟨gg, 0, none⟩) (m.x.length + 1) cap)) B s0 s1 vs (.slice (some ⟨gg, 0, none⟩) (m.x.length + 1) cap) ve { m with x := m.x ++ [⟨i, s, []⟩] } (wsnoc m.x.length wv) ∧ Below base w (w5.setCell ⟨B, 3, none⟩ (.slice (some ⟨gg, 0, none⟩) (m.x.length + 1) cap)) := by
  have hz1 := hb.size
  have hz5 := hg.size
  have hBl := h.box.lt
  have hk5 : ∀ g, g < w.heap.size → vt.ownBlock ≠ some g → w5.heap[g]? = w.heap[g]? := fun g h1 h2 => (hg.block g (by omega) (fun e => h2 e.symm)).trans (hb.block g h1)
  have hk : ∀ g, g < w.heap.size → vt.ownBlock ≠ some g → g ≠ B → (w5.setCell ⟨B, 3, none⟩ (.slice (some ⟨gg, 0, none⟩) (m.x.length + 1) cap)).heap[g]? = w.heap[g]? := fun g h1 h2 h3 => (Below.heap_setCell _ _ _ _ h3).trans (hk5 g h1 h2)
  have hggB : gg ≠ B := fun e => by
    rcases hat with h1 | h1
    · exact h.apart 0 (by omega) (e ▸ h1)
    · omega
  have hgg : vt.ownBlock ≠ some B := h.apart 0 (by omega)
  have hlen : (m.x ++ [(⟨i, s, []⟩ : Td)]).length = m.x.length + 1 := by simp
  have old : ∀ a, a < m.x.length + 2 → a ≠ 0 → (mv (.slice (some ⟨gg, 0, none⟩) (m.x.length + 1) cap) ve (wsnoc m.x.length wv) a).ownBlock = (mv vt ve wv a).ownBlock := fun a ha h0 => by
    match a, ha, h0 with
    | 1, _, _ => rfl
    | j + 2, hj, _ => simp only [mv, wsnoc, if_pos (show j < m.x.length by omega)]
  have new : (mv (.slice (some ⟨gg, 0, none⟩) (m.x.length + 1) cap) ve (wsnoc m.x.length wv) (m.x.length + 2)).ownBlock = none := by simp [mv, wsnoc, nilV, Value.ownBlock]
  refine ⟨⟨⟨h.own.s.keep fun k h1 h2 h3 => hk k h3 (fun e => by have := h.own.far 0 (by omega) k e; omega) (by have := h.far; omega), ⟨h.own.sb.1, h.own.sb.2.1, by rw [size_setCell]; have := h.own.sb; omega⟩, ?_, fun j hj => ?_, owns_keepM h.own.h fun g hg' hl => hk g hl (fun e => h.own.apart 1 0 (by omega) (by omega) (by omega) g hg' e) (fun e => h.apart 1 (by omega) (e ▸ hg')), ?_, ?_⟩, ?_, h.base, h.far, ?_⟩, ?_⟩
  · show World.ownsRow _ base 97 3 _ (m.x ++ [(⟨i, s, []⟩ : Td)]).length (txc (m.x ++ [(⟨i, s, []⟩ : Td)]) (wsnoc m.x.length wv))
    rw [txc_snoc, hlen]
    exact owns_keepM hown fun g hg' hl => Below.heap_setCell _ _ _ _ (fun e => hggB ((show g = gg by simpa [Value.ownBlock] using hg'.symm).symm.trans e))
  · have hj' : j < m.x.length + 1 := by rw [← hlen]; exact hj
    show World.ownsRow _ base 111 3 (wsnoc m.x.length wv j) (tAt (m.x ++ [(⟨i, s, []⟩ : Td)]) j).w.length (flat (tAt (m.x ++ [(⟨i, s, []⟩ : Td)]) j).w)
    by_cases e : j < m.x.length
    · rw [tAt_snoc_lt _ _ e, wsnoc, if_pos e]
      exact owns_keepM (h.own.xw j e) fun g hg' hl => hk g hl (fun e' => h.own.apart (j + 2) 0 (by omega) (by omega) (by omega) g hg' e') (fun e' => h.apart (j + 2) (by omega) (e' ▸ hg'))
    · obtain rfl : j = m.x.length := by omega
      rw [tAt_snoc_eq, wsnoc, if_neg e]
      exact World.ownsRow_nil _ _ _ _
  · intro a ha g hg'
    have ha' : a < m.x.length + 1 + 2 := by rw [← hlen]; exact ha
    by_cases e0 : a = 0
    · subst e0
      have e : g = gg := by simpa [mv, Value.ownBlock] using hg'.symm
      rcases hat with h1 | h1
      · exact h.own.far 0 (by omega) g (e ▸ h1)
      · have := h.own.sb; exact .inr (by omega)
    · by_cases e1 : a = m.x.length + 2
      · subst e1; rw [new] at hg'; cases hg'
      · rw [old a (by omega) e0] at hg'
        exact h.own.far a (by omega) g hg'
  · refine apart_upd (N := m.x.length + 2) (S := w.heap.size) (f := fun a => (mv vt ve wv a).ownBlock) h.own.apart (fun a ha g hg' => (h.own.lt a ha g hg').2) (fun a ha g hg' => ?_) (fun a b ha hb' hab g hS h1 h2 => ?_)
    · have ha' : a < m.x.length + 1 + 2 := by rw [← hlen]; exact ha
      by_cases e0 : a = 0
      · subst e0
        have e : g = gg := by simpa [mv, Value.ownBlock] using hg'.symm
        rcases hat with h1 | h1
        · exact .inl ⟨by omega, e ▸ h1⟩
        · exact .inr (by omega)
      · by_cases e1 : a = m.x.length + 2
        · subst e1; rw [new] at hg'; cases hg'
        · rw [old a (by omega) e0] at hg'
          exact .inl ⟨by omega, hg'⟩
    · have key : ∀ c, c < (m.x ++ [(⟨i, s, []⟩ : Td)]).length + 2 → (mv (.slice (some ⟨gg, 0, none⟩) (m.x.length + 1) cap) ve (wsnoc m.x.length wv) c).ownBlock = some g → c = 0 := fun c hc e => by
        rw [hlen] at hc
        by_cases e0 : c = 0
        · exact e0
        · by_cases e1 : c = m.x.length + 2
          · subst e1; rw [new] at e; cases e
          · rw [old c (by omega) e0] at e
            have := (h.own.lt c (by omega) g e).2
            omega
      exact hab ((key a ha h1).trans (key b hb' h2).symm)
  · have hb5 := (h.box.of_block (hk5 B hBl hgg)).set 3 (.slice (some ⟨gg, 0, none⟩) (m.x.length + 1) cap)
    refine hb5.congr fun j hj => ?_
    match j, hj with
    | 0, _ => rfl
    | 1, _ => rfl
    | 2, _ => rfl
    | 3, _ => rfl
    | 4, _ => rfl
  · intro a ha e
    have ha' : a < m.x.length + 1 + 2 := by rw [← hlen]; exact ha
    by_cases e0 : a = 0
    · subst e0
      exact hggB (by simpa [mv, Value.ownBlock] using e)
    · by_cases e1 : a = m.x.length + 2
      · subst e1; rw [new] at e; cases e
      · rw [old a (by omega) e0] at e
        exact h.apart a (by omega) e
  · have b1 : Below base w w1 := hb.mono (by have := h.base; omega)
    have b5 : Below base w1 w5 := ⟨hg.os, hg.tape, hg.output, hg.size, fun k hk' => hg.block k (by have := h.base; omega) (fun e => by have := (owns_ltM h.own.x e.symm).1; omega)⟩
    exact (b1.trans b5).setCell (p := ⟨B, 3, none⟩) h.base _
end
end Go.Proofs.YtmecbppblbmchaaGreatDoor

/- append of whatever slice, empty or nil or not, onto a slice that the call owns. Three operations of a region that may come up. -/
namespace Go.Proofs.YtmecbppblbmchaaGreatDoor
open Go.ChangeShapes Go.WideShapes Go.ChangeAt Go.RowKit Go.Sort
set_option linter.unusedVariables false
set_option maxRecDepth 100000

/-- The cells of a slice that may be nil. -/
def SrcAt (w : World) (ad : Option Addr) (m : Nat) (news : List Value) : Prop := (m = 0 ∧ news = []) ∨ ∃ a, ad = some a ∧ ∀ j u, news[j]? = some u → w.cell? (a.add j) = some u
theorem SrcAt.stays {w w' : World} {ad : Option Addr} {m : Nat} {news : List Value} (h : SrcAt w ad m news) (hb : Below w.heap.size w w') : SrcAt w' ad m news := by
  rcases h with h | ⟨a, e, h⟩
  · exact .inl h
  · exact .inr ⟨a, e, fun j u hj => cell_stays hb (h j u hj)⟩
theorem CellsAt.src {w : World} {a : Option Addr} {n k : Nat} {cs : List Value} (h : CellsAt w a n cs) (hl : cs.length = n * k) : SrcAt w a n cs := by
  rcases Nat.eq_zero_or_pos n with h0 | h0
  · subst h0
    exact .inl ⟨rfl, List.eq_nil_of_length_eq_zero (by omega)⟩
  · obtain ⟨b, off, rfl, hc⟩ := h h0
    exact .inr ⟨_, rfl, fun j u hj => by rw [add_at]; exact hc j u hj⟩

theorem run_append_src {P : Program} (w : World) (t ty : TypeId) (base : Nat) (e : TypeId) (i : TypeInfo) (z : Value) (size bytes : Nat) (ht : P.underlying t = some (.slice e)) (hi : P.info? e = some i) (hz : i.zero = some z)
    (hsize : i.size = size) (hby : i.bytes = bytes) (hzs : z.cells.size = size) (hsz : 0 < size)
    (g0 n cap : Nat) (xs : List Value) (hown : w.ownsRow base e size (.slice (some ⟨g0, 0, none⟩) n cap) n xs)
    (ad : Option Addr) (m c : Nat) (news : List Value) (hl : news.length = m * size) (hnews : SrcAt w ad m news) (h1 : ∀ u ∈ news, u.oneCell' = true)
    (h63 : n + m ≤ maxLen) (hbytes : (n + m) * bytes ≤ 140737488355328) (hbase : base ≤ w.heap.size) :
    ∃ g cap' w', (Builtin.append_ #[t, t] ty #[.slice (some ⟨g0, 0, none⟩) n cap, .slice ad m c]).run P w = .ok (.slice (some ⟨g, 0, none⟩) (n + m) cap') w' ∧
      w'.ownsRow base e size (.slice (some ⟨g, 0, none⟩) (n + m) cap') (n + m) (xs ++ news) ∧ w.grownBy w' (some g0) ∧ (g = g0 ∨ g = w.heap.size) ∧ g < w'.heap.size := by
  have fin : ∀ v' w', (Builtin.append_ #[t, t] ty #[.slice (some ⟨g0, 0, none⟩) n cap, .slice ad m c]).run P w = .ok v' w' → w'.ownsRow base e size v' (n + m) (xs ++ news) → w.grownBy w' (some g0) → v' ≠ .slice none 0 0 → (v'.ownBlock = some g0 ∨ v'.ownBlock = some w.heap.size) →
      ∃ g cap' w', (Builtin.append_ #[t, t] ty #[.slice (some ⟨g0, 0, none⟩) n cap, .slice ad m c]).run P w = .ok (.slice (some ⟨g, 0, none⟩) (n + m) cap') w' ∧ w'.ownsRow base e size (.slice (some ⟨g, 0, none⟩) (n + m) cap') (n + m) (xs ++ news) ∧ w.grownBy w' (some g0) ∧ (g = g0 ∨ g = w.heap.size) ∧ g < w'.heap.size := fun v' w' hr ho hg hnil hb => by
    rcases ho.2 with ⟨e1, _⟩ | ⟨g, cap', cur, rfl, _, hh, _⟩
    · exact absurd e1 hnil
    · refine ⟨g, cap', w', hr, ho, hg, ?_, (Array.getElem?_eq_some_iff.1 hh).1⟩
      simpa [Value.ownBlock] using hb
  cases ad with
  | some a =>
    have hn' : ∀ j u, news[j]? = some u → w.cell? (a.add j) = some u := by
      rcases hnews with ⟨rfl, rfl⟩ | ⟨a', e', h⟩
      · intro j u hj; simp at hj
      · injection e' with e'; subst e'; exact h
    obtain ⟨v', w', hr, h2, h3, h4, h5⟩ := run_append_own_at (P := P) w base t ty e i z size bytes ht hi hz hsize hby hzs hsz _ n xs hown a m c news hl hn' h1 h63 hbytes hbase
    exact fin v' w' hr h2 h3 (fun e' => by have := (h4.1 e').1; cases this) h5
  | none =>
    obtain ⟨rfl, rfl⟩ : m = 0 ∧ news = [] := by
      rcases hnews with h | ⟨a', e', _⟩
      · exact h
      · cases e'
    have hcap : n ≤ cap := by
      rcases hown.2 with ⟨e1, _⟩ | ⟨g, cap', cur, e1, _, _, h, _⟩
      · cases e1
      · injection e1 with _ _ e3; omega
    have hsrc : Src P i.size t (.slice none 0 c) 0 [] w := Src.ofNil w ht c
    have hr := run_append_room_src (P := P) w t t ty e i ht hi g0 0 n cap (.slice none 0 c) 0 [] hsrc (by omega) (fun j hj => absurd hj (Nat.not_lt_zero _)) (fun j hj => absurd hj (Nat.not_lt_zero _))
    have hw : w.setCells g0 (0 + n * i.size) [] = w := by simp [World.setCells]
    rw [hw] at hr
    exact fin _ w hr (by simpa using hown) ⟨rfl, rfl, rfl, Nat.le_refl _, fun _ _ _ => rfl⟩ (fun e' => by cases e') (.inl rfl)

/-- At the operation. -/
theorem wp_append_src {P : Program} {w : World} {o : Oper} {a : Act} {K : Act → World → Prop} {Q : Exit → Act → World → Prop} (s x : Operand) (t : TypeId)
    (ho : o.op = .call { callee := .builtin .append, args := #[s, x], argTypes := #[t, t] })
    (base : Nat) (e : TypeId) (i : TypeInfo) (z : Value) (size bytes : Nat) (ht : P.underlying t = some (.slice e)) (hi : P.info? e = some i) (hz : i.zero = some z)
    (hsize : i.size = size) (hby : i.bytes = bytes) (hzs : z.cells.size = size) (hsz : 0 < size)
    (g0 n cap : Nat) (xs : List Value) (hs : a.eval s = .slice (some ⟨g0, 0, none⟩) n cap) (hown : w.ownsRow base e size (.slice (some ⟨g0, 0, none⟩) n cap) n xs)
    (ad : Option Addr) (m c : Nat) (news : List Value) (hx : a.eval x = .slice ad m c) (hl : news.length = m * size) (hnews : SrcAt w ad m news) (h1 : ∀ u ∈ news, u.oneCell' = true)
    (h63 : n + m ≤ maxLen) (hbytes : (n + m) * bytes ≤ 140737488355328) (hbase : base ≤ w.heap.size)
    (h : ∀ g cap' w', w'.ownsRow base e size (.slice (some ⟨g, 0, none⟩) (n + m) cap') (n + m) (xs ++ news) → w.grownBy w' (some g0) → (g = g0 ∨ g = w.heap.size) → g < w'.heap.size → K (a.put o.dst (.slice (some ⟨g, 0, none⟩) (n + m) cap')) w') : o.wp P a w K Q := by
  obtain ⟨g, cap', w', hr, h2, h3, h4, h5⟩ := run_append_src (P := P) w t o.type base e i z size bytes ht hi hz hsize hby hzs hsz g0 n cap xs hown ad m c news hl hnews h1 h63 hbytes hbase
  unfold Oper.wp execOp
  simp only [ho, resolve, invoke, builtin, Sem.run_bind, Sem.run_pure, Result.andThen_ok, List.map_toArray, List.map_cons, List.map_nil, hs, hx, hr]
  exact h g cap' w' h2 h3 h4 h5
/-- At the list of a plain region's operations. -/
theorem wpList_append_src {P : Program} {w : World} {ops : Array Oper} {rest : List Oper} {o : Oper} {a : Act} {Q : Exit → Act → World → Prop} (hgd : o.guard = none) (s x : Operand) (t : TypeId)
    (ho : o.op = .call { callee := .builtin .append, args := #[s, x], argTypes := #[t, t] })
    (base : Nat) (e : TypeId) (i : TypeInfo) (z : Value) (size bytes : Nat) (ht : P.underlying t = some (.slice e)) (hi : P.info? e = some i) (hz : i.zero = some z)
    (hsize : i.size = size) (hby : i.bytes = bytes) (hzs : z.cells.size = size) (hsz : 0 < size)
    (g0 n cap : Nat) (xs : List Value) (hs : a.eval s = .slice (some ⟨g0, 0, none⟩) n cap) (hown : w.ownsRow base e size (.slice (some ⟨g0, 0, none⟩) n cap) n xs)
    (ad : Option Addr) (m c : Nat) (news : List Value) (hx : a.eval x = .slice ad m c) (hl : news.length = m * size) (hnews : SrcAt w ad m news) (h1 : ∀ u ∈ news, u.oneCell' = true)
    (h63 : n + m ≤ maxLen) (hbytes : (n + m) * bytes ≤ 140737488355328) (hbase : base ≤ w.heap.size)
    (h : ∀ g cap' w', w'.ownsRow base e size (.slice (some ⟨g, 0, none⟩) (n + m) cap') (n + m) (xs ++ news) → w.grownBy w' (some g0) → (g = g0 ∨ g = w.heap.size) → g < w'.heap.size → wpList P ops Q rest (a.put o.dst (.slice (some ⟨g, 0, none⟩) (n + m) cap')) w') : wpList P ops Q (o :: rest) a w :=
  wpList_plain hgd fun _ hK => wp_append_src s x t ho base e i z size bytes ht hi hz hsize hby hzs hsz g0 n cap xs hs hown ad m c news hx hl hnews h1 h63 hbytes hbase fun g cap' w' h2 h3 h4 h5 => hK _ _ (h g cap' w' h2 h3 h4 h5)
/-- At a step of a region that draws. -/
theorem step_append_src {P : Program} {w : World} {ops : Array Oper} {o : Oper} {a : Act} {K : Act → World → Prop} {Q : Exit → Act → World → Prop} {E : Prop} (hgd : o.guard = none) (s x : Operand) (t : TypeId)
    (ho : o.op = .call { callee := .builtin .append, args := #[s, x], argTypes := #[t, t] })
    (base : Nat) (e : TypeId) (i : TypeInfo) (z : Value) (size bytes : Nat) (ht : P.underlying t = some (.slice e)) (hi : P.info? e = some i) (hz : i.zero = some z)
    (hsize : i.size = size) (hby : i.bytes = bytes) (hzs : z.cells.size = size) (hsz : 0 < size)
    (g0 n cap : Nat) (xs : List Value) (hs : a.eval s = .slice (some ⟨g0, 0, none⟩) n cap) (hown : w.ownsRow base e size (.slice (some ⟨g0, 0, none⟩) n cap) n xs)
    (ad : Option Addr) (m c : Nat) (news : List Value) (hx : a.eval x = .slice ad m c) (hl : news.length = m * size) (hnews : SrcAt w ad m news) (h1 : ∀ u ∈ news, u.oneCell' = true)
    (h63 : n + m ≤ maxLen) (hbytes : (n + m) * bytes ≤ 140737488355328) (hbase : base ≤ w.heap.size)
    (h : ∀ g cap' w', w'.ownsRow base e size (.slice (some ⟨g, 0, none⟩) (n + m) cap') (n + m) (xs ++ news) → w.grownBy w' (some g0) → (g = g0 ∨ g = w.heap.size) → g < w'.heap.size → K (a.put o.dst (.slice (some ⟨g, 0, none⟩) (n + m) cap')) w') :
    if Region.wanted o (yielded ops a.tmps) = true then Oper.wp P o a w K Q else E := by
  have hw : Region.wanted o (yielded ops a.tmps) = true := by simp [Region.wanted, hgd]
  rw [if_pos hw]
  obtain ⟨g, cap', w', hr, h2, h3, h4, h5⟩ := run_append_src (P := P) w t o.type base e i z size bytes ht hi hz hsize hby hzs hsz g0 n cap xs hown ad m c news hl hnews h1 h63 hbytes hbase
  unfold Oper.wp execOp
  simp only [ho, resolve, invoke, builtin, Sem.run_bind, Sem.run_pure, Result.andThen_ok, List.map_toArray, List.map_cons, List.map_nil, hs, hx, hr]
  exact h g cap' w' h2 h3 h4 h5

/-- Three that may come up: either first. -/
theorem step3L {P : Program} {md : Region.Mode} {l : List Oper} {S : World → Prop} {Q : Exit → Act → World → Prop} {i j k : Nat} {o o' o'' : Oper} {fuel : Nat} {listed : Array Bool} {a : Act} {w : World} (hi : l[i]? = some o) (hj : l[j]? = some o') (hk : l[k]? = some o'') (hr : Region.ready md l.toArray listed = [i, j, k])
    (h : ∀ K' : Act → World → Prop, Shut (∀ a w, S w → (S w → wpAnyH P md l.toArray Q S fuel (listed.setIfInBounds i true) a w) → K' a w) → if Region.wanted o (yielded l.toArray a.tmps) = true then Oper.wp P o a w K' Q else K' (a.put o.dst undef) w)
    (h' : ∀ K' : Act → World → Prop, Shut (∀ a w, S w → (S w → wpAnyH P md l.toArray Q S fuel (listed.setIfInBounds j true) a w) → K' a w) → if Region.wanted o' (yielded l.toArray a.tmps) = true then Oper.wp P o' a w K' Q else K' (a.put o'.dst undef) w)
    (h'' : ∀ K' : Act → World → Prop, Shut (∀ a w, S w → (S w → wpAnyH P md l.toArray Q S fuel (listed.setIfInBounds k true) a w) → K' a w) → if Region.wanted o'' (yielded l.toArray a.tmps) = true then Oper.wp P o'' a w K' Q else K' (a.put o''.dst undef) w) :
    wpAnyH P md l.toArray Q S (fuel + 1) listed a w :=
  wpAnyH_ready hr (by simp) (AllReadyH.cons (by simpa using hi) h (AllReadyH.cons (by simpa using hj) h' (AllReadyH.cons (by simpa using hk) h'' AllReadyH.nil)))

end Go.Proofs.YtmecbppblbmchaaGreatDoor
