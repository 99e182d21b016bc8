import Derived.Test.YtmecbppblbmchaaGreatDoorM5
/- A state behind a pointer is turned: one transaction more, with what it has written. -/
namespace Go.Proofs.YtmecbppblbmchaaGreatDoor
open Go.ChangeShapes Go.WideShapes Go.ChangeAt Go.RowKit Go.Sort
set_option linter.unusedVariables false
set_option maxRecDepth 100000

/-- The lists, with u behind the first n. -/
def wsnocU (n : Nat) (wv : Nat → Value) (u : Value) : Nat → Value := fun j => if j < n then wv j else u
theorem txc_snocU (l : List Td) (i s : Int) (r : List Rw) (wv : Nat → Value) (u : Value) : txc (l ++ [⟨i, s, r⟩]) (wsnocU l.length wv u) = txc l wv ++ [.int .i64 i, .int .i64 s, u] := by
  simp only [txc, tri, List.length_append, List.length_cons, List.length_nil, Nat.zero_add, List.range_succ, List.flatMap_append, List.flatMap_cons, List.flatMap_nil, List.append_nil]
  congr 1
  · rw [List.flatMap_def, List.flatMap_def]
    congr 1
    apply List.map_congr_left
    intro a ha
    have ha' : a < l.length := List.mem_range.1 ha
    rw [tAt_snoc_lt l _ ha']
    simp [wsnocU, ha']
  · rw [tAt_snoc_eq]
    simp [wsnocU]

section
variable {base B s0 s1 : Nat} {w : World} {vs vt ve : Value} {m : Md} {wv : Nat → Value}
/-- One transaction more, with what it has written. -/
theorem PtrM.pushTxW (h : PtrM base w B s0 s1 vs vt ve m wv) {w1 w5 : World} (hb : Below w.heap.size w w1) (hg : w1.grownBy w5 vt.ownBlock) {i s : Int} {r : List Rw} {u : Value} {gg cap : Nat}
    (hown : w5.ownsRow base 97 3 (.slice (some ⟨gg, 0, none⟩) (m.x.length + 1) cap) (m.x.length + 1) (txc m.x wv ++ [.int .i64 i, .int .i64 s, u])) (hat : vt.ownBlock = some gg ∨ w1.heap.size ≤ gg) (hu : w1.ownsRow base 111 3 u r.length (flat r)) (hug : ∀ g, u.ownBlock = some g → w.heap.size ≤ g) :
    PtrM base (w5.setCell ⟨B, 3, none⟩ (.slice (some ⟨gg, 0, none⟩) (m.x.length + 1) cap)) B s0 s1 vs (.slice (some ⟨gg, 0, none⟩) (m.x.length + 1) cap) ve { m with x := m.x ++ [⟨i, s, r⟩] } (wsnocU m.x.length wv u) ∧ Below base w (w5.setCell ⟨B, 3, none⟩ (.slice (some ⟨gg, 0, none⟩) (m.x.length + 1) cap)) := by
  have hz1 := hb.size
  have hz5 := hg.size
  have hBl := h.box.lt
  have hk5 : ∀ g, g < w.heap.size → vt.ownBlock ≠ some g → w5.heap[g]? = w.heap[g]? := fun g h1 h2 => (hg.block g (by omega) (fun e => h2 e.symm)).trans (hb.block g h1)
  have hk : ∀ g, g < w.heap.size → vt.ownBlock ≠ some g → g ≠ B → (w5.setCell ⟨B, 3, none⟩ (.slice (some ⟨gg, 0, none⟩) (m.x.length + 1) cap)).heap[g]? = w.heap[g]? := fun g h1 h2 h3 => (Below.heap_setCell _ _ _ _ h3).trans (hk5 g h1 h2)
  have hggB : gg ≠ B := fun e => by
    rcases hat with h1 | h1
    · exact h.apart 0 (by omega) (e ▸ h1)
    · omega
  have hgg : vt.ownBlock ≠ some B := h.apart 0 (by omega)
  have hlen : (m.x ++ [(⟨i, s, r⟩ : Td)]).length = m.x.length + 1 := by simp
  have old : ∀ a, a < m.x.length + 2 → a ≠ 0 → (mv (.slice (some ⟨gg, 0, none⟩) (m.x.length + 1) cap) ve (wsnocU m.x.length wv u) a).ownBlock = (mv vt ve wv a).ownBlock := fun a ha h0 => by
    match a, ha, h0 with
    | 1, _, _ => rfl
    | j + 2, hj, _ => simp only [mv, wsnocU, if_pos (show j < m.x.length by omega)]
  have new : (mv (.slice (some ⟨gg, 0, none⟩) (m.x.length + 1) cap) ve (wsnocU m.x.length wv u) (m.x.length + 2)).ownBlock = u.ownBlock := by simp [mv, wsnocU]
  have hul : ∀ g, u.ownBlock = some g → w.heap.size ≤ g ∧ g < w1.heap.size := fun g hg' => ⟨hug g hg', (owns_ltM hu hg').2⟩
  refine ⟨⟨⟨h.own.s.keep fun k h1 h2 h3 => hk k h3 (fun e => by have := h.own.far 0 (by omega) k e; omega) (by have := h.far; omega), ⟨h.own.sb.1, h.own.sb.2.1, by rw [size_setCell]; have := h.own.sb; omega⟩, ?_, fun j hj => ?_, owns_keepM h.own.h fun g hg' hl => hk g hl (fun e => h.own.apart 1 0 (by omega) (by omega) (by omega) g hg' e) (fun e => h.apart 1 (by omega) (e ▸ hg')), ?_, ?_⟩, ?_, h.base, h.far, ?_⟩, ?_⟩
  · show World.ownsRow _ base 97 3 _ (m.x ++ [(⟨i, s, r⟩ : Td)]).length (txc (m.x ++ [(⟨i, s, r⟩ : Td)]) (wsnocU m.x.length wv u))
    rw [txc_snocU, hlen]
    exact owns_keepM hown fun g hg' hl => Below.heap_setCell _ _ _ _ (fun e => hggB ((show g = gg by simpa [Value.ownBlock] using hg'.symm).symm.trans e))
  · have hj' : j < m.x.length + 1 := by rw [← hlen]; exact hj
    show World.ownsRow _ base 111 3 (wsnocU m.x.length wv u j) (tAt (m.x ++ [(⟨i, s, r⟩ : Td)]) j).w.length (flat (tAt (m.x ++ [(⟨i, s, r⟩ : Td)]) j).w)
    by_cases e : j < m.x.length
    · rw [tAt_snoc_lt _ _ e, wsnocU, if_pos e]
      exact owns_keepM (h.own.xw j e) fun g hg' hl => hk g hl (fun e' => h.own.apart (j + 2) 0 (by omega) (by omega) (by omega) g hg' e') (fun e' => h.apart (j + 2) (by omega) (e' ▸ hg'))
    · obtain rfl : j = m.x.length := by omega
      rw [tAt_snoc_eq, wsnocU, if_neg e]
      exact owns_keepM hu fun g hg' hl => (Below.heap_setCell _ _ _ _ (by show g ≠ B; have := hul g hg'; omega)).trans (hg.block g hl (fun e' => by have := (owns_ltM h.own.x e'.symm).2; have := hul g hg'; omega))
  · intro a ha g hg'
    have ha' : a < m.x.length + 1 + 2 := by rw [← hlen]; exact ha
    by_cases e0 : a = 0
    · subst e0
      have e : g = gg := by simpa [mv, Value.ownBlock] using hg'.symm
      rcases hat with h1 | h1
      · exact h.own.far 0 (by omega) g (e ▸ h1)
      · have := h.own.sb; exact .inr (by omega)
    · by_cases e1 : a = m.x.length + 2
      · subst e1; rw [new] at hg'; have := hul g hg'; have := h.own.sb; exact .inr (by omega)
      · rw [old a (by omega) e0] at hg'
        exact h.own.far a (by omega) g hg'
  · refine apart_upd (N := m.x.length + 2) (S := w.heap.size) (f := fun a => (mv vt ve wv a).ownBlock) h.own.apart (fun a ha g hg' => (h.own.lt a ha g hg').2) (fun a ha g hg' => ?_) (fun a b ha hb' hab g hS h1 h2 => ?_)
    · have ha' : a < m.x.length + 1 + 2 := by rw [← hlen]; exact ha
      by_cases e0 : a = 0
      · subst e0
        have e : g = gg := by simpa [mv, Value.ownBlock] using hg'.symm
        rcases hat with h1 | h1
        · exact .inl ⟨by omega, e ▸ h1⟩
        · exact .inr (by omega)
      · by_cases e1 : a = m.x.length + 2
        · subst e1; rw [new] at hg'; have := hul g hg'; exact .inr (by omega)
        · rw [old a (by omega) e0] at hg'
          exact .inl ⟨by omega, hg'⟩
    · have key : ∀ c, c < (m.x ++ [(⟨i, s, r⟩ : Td)]).length + 2 → (mv (.slice (some ⟨gg, 0, none⟩) (m.x.length + 1) cap) ve (wsnocU m.x.length wv u) c).ownBlock = some g → (c = 0 ∧ g = gg) ∨ (c = m.x.length + 2 ∧ u.ownBlock = some g) := fun c hc e => by
        rw [hlen] at hc
        by_cases e0 : c = 0
        · subst e0
          exact .inl ⟨rfl, by simpa [mv, Value.ownBlock] using e.symm⟩
        · by_cases e1 : c = m.x.length + 2
          · subst e1; rw [new] at e; exact .inr ⟨rfl, e⟩
          · rw [old c (by omega) e0] at e
            have := (h.own.lt c (by omega) g e).2
            omega
      have gne : ∀ g', u.ownBlock = some g' → g' ≠ gg := fun g' hg' e => by
        have h1 := hul g' hg'
        rcases hat with h2 | h2
        · have := (owns_ltM h.own.x h2).2; omega
        · omega
      rcases key a ha h1 with ⟨a1, a2⟩ | ⟨a1, a2⟩ <;> rcases key b hb' h2 with ⟨b1, b2⟩ | ⟨b1, b2⟩
      · exact hab (a1.trans b1.symm)
      · exact gne g b2 a2
      · exact gne g a2 b2
      · exact hab (a1.trans b1.symm)
  · have hb5 := (h.box.of_block (hk5 B hBl hgg)).set 3 (.slice (some ⟨gg, 0, none⟩) (m.x.length + 1) cap)
    refine hb5.congr fun j hj => ?_
    match j, hj with
    | 0, _ => rfl
    | 1, _ => rfl
    | 2, _ => rfl
    | 3, _ => rfl
    | 4, _ => rfl
  · intro a ha e
    have ha' : a < m.x.length + 1 + 2 := by rw [← hlen]; exact ha
    by_cases e0 : a = 0
    · subst e0
      exact hggB (by simpa [mv, Value.ownBlock] using e)
    · by_cases e1 : a = m.x.length + 2
      · subst e1; rw [new] at e; have := hul B e; omega
      · rw [old a (by omega) e0] at e
        exact h.apart a (by omega) e
  · have b1 : Below base w w1 := hb.mono (by have := h.base; omega)
    have b5 : Below base w1 w5 := ⟨hg.os, hg.tape, hg.output, hg.size, fun k hk' => hg.block k (by have := h.base; omega) (fun e => by have := (owns_ltM h.own.x e.symm).1; omega)⟩
    exact (b1.trans b5).setCell (p := ⟨B, 3, none⟩) h.base _
end
end Go.Proofs.YtmecbppblbmchaaGreatDoor
