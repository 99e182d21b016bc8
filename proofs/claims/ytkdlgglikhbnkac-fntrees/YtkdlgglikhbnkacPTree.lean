/- What is read is a forest: each node but the roots is the kid of one, behind its kids. -/
import Derived.Test.YtkdlgglikhbnkacPRd
namespace Go.Proofs.Ytkdlgglikhbnkac
set_option linter.unusedVariables false

def flatK (seg : List Nd) : List Int := seg.flatMap (·.kids)
def rg (a n : Nat) : List Int := (List.range' a n).map (fun x : Nat => (x : Int))
theorem flatK_append (s t : List Nd) : flatK (s ++ t) = flatK s ++ flatK t := by simp [flatK]
theorem flatK_one (c : Nd) : flatK [c] = c.kids := by simp [flatK]
theorem rg_append (a m n : Nat) : rg a (m + n) = rg a m ++ rg (a + m) n := by
  rw [rg, rg, rg, ← List.map_append, List.range'_append_1]
theorem rg_one (a : Nat) : rg a 1 = [(a : Int)] := by simp [rg]
theorem rg_length (a n : Nat) : (rg a n).length = n := by simp [rg]
theorem mem_rg {a n : Nat} {x : Int} (h : x ∈ rg a n) : (a : Int) ≤ x ∧ x < ((a + n : Nat) : Int) := by
  simp only [rg, List.mem_map, List.mem_range'_1] at h
  obtain ⟨y, ⟨h1, h2⟩, rfl⟩ := h
  omega

structure Forest (a : Nat) (seg : List Nd) (ks : List Int) : Prop where
  cnt : ∀ x : Int, (flatK seg).count x + ks.count x = (rg a seg.length).count x
  less : ∀ j, j < seg.length → ∀ x, x ∈ (ndAt seg j).kids → 0 ≤ x ∧ x < ((a + j : Nat) : Int)

theorem Forest.nil (a : Nat) : Forest a [] [] := ⟨fun x => by simp [flatK, rg], fun j hj => absurd hj (Nat.not_lt_zero _)⟩
theorem Forest.root {a : Nat} {seg : List Nd} {ks : List Int} (h : Forest a seg ks) {x : Int} (hx : x ∈ ks) : (a : Int) ≤ x ∧ x < ((a + seg.length : Nat) : Int) := by
  have h1 := h.cnt x
  have h2 : 0 < ks.count x := List.count_pos_iff.2 hx
  exact mem_rg (List.count_pos_iff.1 (by omega))
theorem ndAt_left {s t : List Nd} {j : Nat} (h : j < s.length) : ndAt (s ++ t) j = ndAt s j := by simp [ndAt, List.getElem?_append_left h]
theorem ndAt_right {s t : List Nd} {j : Nat} (h : s.length ≤ j) : ndAt (s ++ t) j = ndAt t (j - s.length) := by simp [ndAt, List.getElem?_append_right h]
theorem Forest.append {a : Nat} {s t : List Nd} {k l : List Int} (h : Forest a s k) (h' : Forest (a + s.length) t l) : Forest a (s ++ t) (k ++ l) := by
  refine ⟨fun x => ?_, fun j hj x hx => ?_⟩
  · have h1 := h.cnt x
    have h2 := h'.cnt x
    rw [flatK_append, List.length_append, rg_append, List.count_append, List.count_append, List.count_append]
    omega
  · by_cases hl : j < s.length
    · rw [ndAt_left hl] at hx
      exact h.less j hl x hx
    · rw [ndAt_right (by omega)] at hx
      have := h'.less (j - s.length) (by simp at hj; omega) x hx
      omega
theorem Forest.node {a : Nat} {seg : List Nd} {ks : List Int} (h : Forest a seg ks) (c : Nd) (hc : c.kids = ks) : Forest a (seg ++ [c]) [((a + seg.length : Nat) : Int)] := by
  refine ⟨fun x => ?_, fun j hj x hx => ?_⟩
  · have h1 := h.cnt x
    rw [flatK_append, flatK_one, hc, List.length_append, List.length_singleton, rg_append, rg_one, List.count_append, List.count_append]
    omega
  · by_cases hl : j < seg.length
    · rw [ndAt_left hl] at hx
      exact h.less j hl x hx
    · have e : j = seg.length := by simp at hj; omega
      subst e
      rw [ndAt_right (Nat.le_refl _)] at hx
      have hx' : x ∈ ks := by
        have e0 : (ndAt [c] (seg.length - seg.length)).kids = ks := by rw [Nat.sub_self, ← hc]; rfl
        rw [e0] at hx
        exact hx
      have := h.root hx'
      omega
theorem Forest.lengths {a : Nat} {seg : List Nd} {ks : List Int} (h : Forest a seg ks) : (flatK seg).length + ks.length = seg.length := by
  have hp : (flatK seg ++ ks).Perm (rg a seg.length) := List.perm_iff_count.2 fun x => by rw [List.count_append]; exact h.cnt x
  have := hp.length_eq
  rw [List.length_append, rg_length] at this
  exact this

/-- A part of reading adds nodes, and answers their root. -/
def Adds (pre : List Nd) (i : Nat) (r : PR Nat) : Prop := ∀ k i' ns', r = .ok k i' ns' → i ≤ i' ∧ ∃ seg, ns' = pre ++ seg ∧ Forest pre.length seg [(k : Int)]
theorem then_inv {α β : Type} {r : PR α} {f : α → Nat → List Nd → PR β} {b : β} {i' : Nat} {ns' : List Nd} (h : r.then f = .ok b i' ns') : ∃ a i ns, r = .ok a i ns ∧ f a i ns = .ok b i' ns' := by
  rcases r with ⟨a, i, ns⟩ | i
  · exact ⟨a, i, ns, rfl, h⟩
  · cases h
theorem skip_inv {T : List Tk} {x : ByteArray} {i : Nat} {ns : List Nd} {u : Unit} {i' : Nat} {ns' : List Nd} (h : skipF T x i ns = .ok u i' ns') : i' = i + 1 ∧ ns' = ns := by
  rw [skipF] at h
  split at h
  · injection h with h1 h2 h3; exact ⟨h2.symm, h3.symm⟩
  · cases h
theorem take_inv {T : List Tk} {k : Int} {i : Nat} {ns : List Nd} {t : Tk} {i' : Nat} {ns' : List Nd} (h : takeF T k i ns = .ok t i' ns') : i' = i + 1 ∧ ns' = ns := by
  rw [takeF] at h
  split at h
  · injection h with h1 h2 h3; exact ⟨h2.symm, h3.symm⟩
  · cases h
theorem put_adds {pre seg : List Nd} {i i0 : Nat} {ks : List Int} (h : Forest pre.length seg ks) (c : Nd) (hc : c.kids = ks) (hi : i0 ≤ i) : Adds pre i0 (putF c i (pre ++ seg)) := by
  intro k i' ns' e
  rw [putF] at e
  injection e with e1 e2 e3
  subst e1 e2 e3
  refine ⟨hi, seg ++ [c], by simp, ?_⟩
  have := h.node c hc
  rw [List.length_append]
  exact this

structure FLv (R : Fns) : Prop where
  expr : ∀ d i ns, Adds ns i (R.expr d i ns)
  signed : ∀ d i ns, Adds ns i (R.signed d i ns)
  prodL : ∀ d (k : Nat) i pre seg, Forest pre.length seg [(k : Int)] → Adds pre i (R.prodL d k i (pre ++ seg))
  sumL : ∀ d (k : Nat) i pre seg, Forest pre.length seg [(k : Int)] → Adds pre i (R.sumL d k i (pre ++ seg))
  block : ∀ d i ns, Adds ns i (R.block d i ns)
  blockL : ∀ d kids i pre seg, Forest pre.length seg kids → ∀ ks' i' ns', R.blockL d kids i (pre ++ seg) = .ok ks' i' ns' → i ≤ i' ∧ ∃ seg', ns' = pre ++ seg' ∧ Forest pre.length seg' ks'

theorem signedG_adds {T : List Tk} {R : Fns} (h : FLv R) (d i : Nat) (ns : List Nd) : Adds ns i (signedG T R d i ns) := by
  have hnil : ∀ (c : Nd) (i' : Nat), c.kids = [] → i ≤ i' → Adds ns i (putF c i' ns) := fun c i' hc hi => by
    have := put_adds (pre := ns) (seg := []) (Forest.nil _) c hc hi
    rwa [List.append_nil] at this
  rw [signedG]
  split
  · exact hnil _ _ rfl (by omega)
  split
  · split
    · intro k i' ns' e; cases e
    · intro k i' ns' e
      obtain ⟨a, i1, ns1, e1, e2⟩ := then_inv e
      obtain ⟨l1, seg, rfl, f1⟩ := h.signed _ _ _ _ _ _ e1
      clear e1
      exact put_adds f1 _ rfl (by omega) k i' ns' e2
  split
  · intro k i' ns' e
    obtain ⟨a, i1, ns1, e1, e2⟩ := then_inv e
    obtain ⟨l1, seg, rfl, f1⟩ := h.expr _ _ _ _ _ _ e1
    clear e1
    obtain ⟨u, i2, ns2, e3, e4⟩ := then_inv e2
    obtain ⟨rfl, rfl⟩ := skip_inv e3
    injection e4 with e5 e6 e7
    subst e5 e6 e7
    exact ⟨by omega, seg, rfl, f1⟩
  · intro k i' ns' e
    obtain ⟨t, i1, ns1, e1, e2⟩ := then_inv e
    obtain ⟨rfl, rfl⟩ := take_inv e1
    clear e1
    have := put_adds (pre := ns1) (seg := []) (Forest.nil _) ⟨1, t.s, 0, []⟩ rfl (i := i + 1) (i0 := i) (by omega)
    rw [List.append_nil] at this
    exact this k i' ns' e2

/-- Two, one behind the other, and a node over them. -/
theorem pair_adds {pre seg seg2 : List Nd} {k b : Int} (h1 : Forest pre.length seg [k]) (h2 : Forest (pre ++ seg).length seg2 [b]) (c : Nd) (hc : c.kids = [k, b]) : Forest pre.length (seg ++ seg2 ++ [c]) [((pre.length + (seg.length + seg2.length) : Nat) : Int)] := by
  rw [List.length_append] at h2
  have := (h1.append h2).node c hc
  rwa [List.length_append] at this

theorem prodLG_adds {T : List Tk} {R : Fns} (h : FLv R) (d k i : Nat) (pre seg : List Nd) (hf : Forest pre.length seg [(k : Int)]) : Adds pre i (prodLG T R d k i (pre ++ seg)) := by
  rw [prodLG]
  split
  · intro k' i' ns' e
    obtain ⟨b, i1, ns1, e1, e2⟩ := then_inv e
    obtain ⟨l1, seg2, rfl, f1⟩ := signedG_adds h _ _ _ _ _ _ e1
    clear e1
    rename_i kd _
    have hp := pair_adds hf f1 ⟨kd, empS, 0, [(k : Int), (b : Int)]⟩ rfl
    have e3 : pre ++ seg ++ seg2 ++ [(⟨kd, empS, 0, [(k : Int), (b : Int)]⟩ : Nd)] = pre ++ (seg ++ seg2 ++ [⟨kd, empS, 0, [(k : Int), (b : Int)]⟩]) := by simp
    have e4 : (pre ++ seg ++ seg2).length = pre.length + (seg.length + seg2.length) := by simp
    rw [e3, e4] at e2
    obtain ⟨l2, r2⟩ := h.prodL _ _ _ _ _ hp _ _ _ e2
    exact ⟨by omega, r2⟩
  · intro k' i' ns' e
    injection e with e1 e2 e3
    subst e1 e2 e3
    exact ⟨Nat.le_refl _, seg, rfl, hf⟩
theorem productG_adds {T : List Tk} {R : Fns} (h : FLv R) (d i : Nat) (ns : List Nd) : Adds ns i (productG T R d i ns) := by
  intro k i' ns' e
  rw [productG] at e
  obtain ⟨a, i1, ns1, e1, e2⟩ := then_inv e
  obtain ⟨l1, seg, rfl, f1⟩ := signedG_adds h _ _ _ _ _ _ e1
  clear e1
  obtain ⟨l2, r2⟩ := prodLG_adds h _ _ _ _ _ f1 _ _ _ e2
  exact ⟨by omega, r2⟩
theorem sumLG_adds {T : List Tk} {R : Fns} (h : FLv R) (d k i : Nat) (pre seg : List Nd) (hf : Forest pre.length seg [(k : Int)]) : Adds pre i (sumLG T R d k i (pre ++ seg)) := by
  rw [sumLG]
  split
  · intro k' i' ns' e
    obtain ⟨b, i1, ns1, e1, e2⟩ := then_inv e
    obtain ⟨l1, seg2, rfl, f1⟩ := productG_adds h _ _ _ _ _ _ e1
    clear e1
    rename_i kd _
    have hp := pair_adds hf f1 ⟨kd, empS, 0, [(k : Int), (b : Int)]⟩ rfl
    have e3 : pre ++ seg ++ seg2 ++ [(⟨kd, empS, 0, [(k : Int), (b : Int)]⟩ : Nd)] = pre ++ (seg ++ seg2 ++ [⟨kd, empS, 0, [(k : Int), (b : Int)]⟩]) := by simp
    have e4 : (pre ++ seg ++ seg2).length = pre.length + (seg.length + seg2.length) := by simp
    rw [e3, e4] at e2
    obtain ⟨l2, r2⟩ := h.sumL _ _ _ _ _ hp _ _ _ e2
    exact ⟨by omega, r2⟩
  · intro k' i' ns' e
    injection e with e1 e2 e3
    subst e1 e2 e3
    exact ⟨Nat.le_refl _, seg, rfl, hf⟩
theorem sumG_adds {T : List Tk} {R : Fns} (h : FLv R) (d i : Nat) (ns : List Nd) : Adds ns i (sumG T R d i ns) := by
  intro k i' ns' e
  rw [sumG] at e
  obtain ⟨a, i1, ns1, e1, e2⟩ := then_inv e
  obtain ⟨l1, seg, rfl, f1⟩ := productG_adds h _ _ _ _ _ _ e1
  clear e1
  obtain ⟨l2, r2⟩ := sumLG_adds h _ _ _ _ _ f1 _ _ _ e2
  exact ⟨by omega, r2⟩
theorem exprG_adds {T : List Tk} {R : Fns} (h : FLv R) (d i : Nat) (ns : List Nd) : Adds ns i (exprG T R d i ns) := by
  rw [exprG]
  split
  · intro k i' ns' e; cases e
  · intro k i' ns' e
    obtain ⟨a, i1, ns1, e1, e2⟩ := then_inv e
    obtain ⟨l1, seg, rfl, f1⟩ := sumG_adds h _ _ _ _ _ _ e1
    clear e1
    split at e2
    · obtain ⟨b, i2, ns2, e3, e4⟩ := then_inv e2
      obtain ⟨l2, seg2, rfl, f2⟩ := sumG_adds h _ _ _ _ _ _ e3
      rw [List.length_append] at f2
      rw [List.append_assoc] at e4
      exact put_adds (f1.append f2) _ rfl (by omega) k i' ns' e4
    · injection e2 with e5 e6 e7
      subst e5 e6 e7
      exact ⟨l1, seg, rfl, f1⟩
theorem rowG_adds {T : List Tk} {R : Fns} (h : FLv R) (d i : Nat) (ns : List Nd) {x : Int × Nat} {i' : Nat} {ns' : List Nd} (e : rowG T R d i ns = .ok x i' ns') : i ≤ i' ∧ ∃ seg, ns' = ns ++ seg ∧ Forest ns.length seg [(x.2 : Int)] := by
  rw [rowG] at e
  obtain ⟨t, i1, ns1, e1, eN⟩ := then_inv e
  clear e
  have e := eN
  clear eN
  obtain ⟨rfl, rfl⟩ := take_inv e1
  clear e1
  obtain ⟨u, i2, ns2, e1, eN⟩ := then_inv e
  clear e
  have e := eN
  clear eN
  obtain ⟨rfl, rfl⟩ := skip_inv e1
  clear e1
  obtain ⟨k, i3, ns3, e1, eN⟩ := then_inv e
  clear e
  have e := eN
  clear eN
  obtain ⟨l1, seg, rfl, f1⟩ := exprG_adds h _ _ _ _ _ _ e1
  clear e1
  obtain ⟨u2, i4, ns4, e1, eN⟩ := then_inv e
  clear e
  have e := eN
  clear eN
  obtain ⟨rfl, rfl⟩ := skip_inv e1
  clear e1
  injection e with e5 e6 e7
  subst e5 e6 e7
  exact ⟨by omega, seg, rfl, f1⟩
theorem writeG_adds {T : List Tk} {R : Fns} (h : FLv R) (d i : Nat) (ns : List Nd) : Adds ns i (writeG T R d i ns) := by
  intro k i' ns' e
  rw [writeG] at e
  obtain ⟨u, i1, ns1, e1, eN⟩ := then_inv e
  clear e
  have e := eN
  clear eN
  obtain ⟨rfl, rfl⟩ := skip_inv e1
  clear e1
  obtain ⟨x, i2, ns2, e1, eN⟩ := then_inv e
  clear e
  have e := eN
  clear eN
  obtain ⟨l1, seg, rfl, f1⟩ := rowG_adds h _ _ _ e1
  clear e1
  obtain ⟨u, i3, ns3, e1, eN⟩ := then_inv e
  clear e
  have e := eN
  clear eN
  obtain ⟨rfl, rfl⟩ := skip_inv e1
  clear e1
  obtain ⟨v, i4, ns4, e1, eN⟩ := then_inv e
  clear e
  have e := eN
  clear eN
  obtain ⟨l2, seg2, rfl, f2⟩ := exprG_adds h _ _ _ _ _ _ e1
  clear e1
  obtain ⟨u, i5, ns5, e1, eN⟩ := then_inv e
  clear e
  have e := eN
  clear eN
  obtain ⟨rfl, rfl⟩ := skip_inv e1
  clear e1
  rw [List.length_append] at f2
  rw [List.append_assoc] at e
  exact put_adds (f1.append f2) _ rfl (by omega) k i' ns' e
theorem choiceG_adds {T : List Tk} {R : Fns} (h : FLv R) (d i : Nat) (ns : List Nd) : Adds ns i (choiceG T R d i ns) := by
  intro k i' ns' e
  rw [choiceG] at e
  obtain ⟨u, i1, ns1, e1, eN⟩ := then_inv e
  clear e
  have e := eN
  clear eN
  obtain ⟨rfl, rfl⟩ := skip_inv e1
  clear e1
  obtain ⟨u, i2, ns2, e1, eN⟩ := then_inv e
  clear e
  have e := eN
  clear eN
  obtain ⟨rfl, rfl⟩ := skip_inv e1
  clear e1
  obtain ⟨x, i3, ns3, e1, eN⟩ := then_inv e
  clear e
  have e := eN
  clear eN
  obtain ⟨l1, seg, rfl, f1⟩ := exprG_adds h _ _ _ _ _ _ e1
  clear e1
  obtain ⟨u, i4, ns4, e1, eN⟩ := then_inv e
  clear e
  have e := eN
  clear eN
  obtain ⟨rfl, rfl⟩ := skip_inv e1
  clear e1
  obtain ⟨b, i5, ns5, e1, eN⟩ := then_inv e
  clear e
  have e := eN
  clear eN
  obtain ⟨l2, seg2, rfl, f2⟩ := h.block _ _ _ _ _ _ e1
  clear e1
  rw [List.length_append] at f2
  have f12 := f1.append f2
  split at e
  · obtain ⟨u, i6, ns6, e1, eN⟩ := then_inv e
    clear e
    have e := eN
    clear eN
    obtain ⟨rfl, rfl⟩ := skip_inv e1
    clear e1
    obtain ⟨c, i7, ns7, e1, eN⟩ := then_inv e
    clear e
    have e := eN
    clear eN
    obtain ⟨l3, seg3, rfl, f3⟩ := h.block _ _ _ _ _ _ e1
    clear e1
    rw [List.append_assoc, List.length_append] at f3
    rw [List.append_assoc, List.append_assoc, ← List.append_assoc seg] at e
    exact put_adds (f12.append f3) _ rfl (by omega) k i' ns' e
  · rw [List.append_assoc] at e
    exact put_adds f12 _ rfl (by omega) k i' ns' e
theorem loopG_adds {T : List Tk} {R : Fns} (h : FLv R) (d i : Nat) (ns : List Nd) : Adds ns i (loopG T R d i ns) := by
  intro k i' ns' e
  rw [loopG] at e
  obtain ⟨u, i1, ns1, e1, eN⟩ := then_inv e
  clear e
  have e := eN
  clear eN
  obtain ⟨rfl, rfl⟩ := skip_inv e1
  clear e1
  obtain ⟨x, i2, ns2, e1, eN⟩ := then_inv e
  clear e
  have e := eN
  clear eN
  obtain ⟨rfl, rfl⟩ := take_inv e1
  clear e1
  obtain ⟨u, i3, ns3, e1, eN⟩ := then_inv e
  clear e
  have e := eN
  clear eN
  obtain ⟨rfl, rfl⟩ := skip_inv e1
  clear e1
  obtain ⟨m, i4, ns4, e1, eN⟩ := then_inv e
  clear e
  have e := eN
  clear eN
  obtain ⟨rfl, rfl⟩ := take_inv e1
  clear e1
  obtain ⟨b, i5, ns5, e1, eN⟩ := then_inv e
  clear e
  have e := eN
  clear eN
  obtain ⟨l1, seg, rfl, f1⟩ := h.block _ _ _ _ _ _ e1
  clear e1
  exact put_adds f1 _ rfl (by omega) k i' ns' e
theorem assignG_adds {T : List Tk} {R : Fns} (h : FLv R) (d i : Nat) (ns : List Nd) : Adds ns i (assignG T R d i ns) := by
  intro k i' ns' e
  rw [assignG] at e
  obtain ⟨x, i1, ns1, e1, eN⟩ := then_inv e
  clear e
  have e := eN
  clear eN
  obtain ⟨rfl, rfl⟩ := take_inv e1
  clear e1
  obtain ⟨u, i2, ns2, e1, eN⟩ := then_inv e
  clear e
  have e := eN
  clear eN
  obtain ⟨rfl, rfl⟩ := skip_inv e1
  clear e1
  split at e
  · obtain ⟨u, i3, ns3, e1, eN⟩ := then_inv e
    clear e
    have e := eN
    clear eN
    obtain ⟨rfl, rfl⟩ := skip_inv e1
    clear e1
    obtain ⟨y, i4, ns4, e1, eN⟩ := then_inv e
    clear e
    have e := eN
    clear eN
    obtain ⟨l1, seg, rfl, f1⟩ := rowG_adds h _ _ _ e1
    clear e1
    obtain ⟨u, i5, ns5, e1, eN⟩ := then_inv e
    clear e
    have e := eN
    clear eN
    obtain ⟨rfl, rfl⟩ := skip_inv e1
    clear e1
    exact put_adds f1 _ rfl (by omega) k i' ns' e
  · obtain ⟨y, i4, ns4, e1, eN⟩ := then_inv e
    clear e
    have e := eN
    clear eN
    obtain ⟨l1, seg, rfl, f1⟩ := exprG_adds h _ _ _ _ _ _ e1
    clear e1
    obtain ⟨u, i5, ns5, e1, eN⟩ := then_inv e
    clear e
    have e := eN
    clear eN
    obtain ⟨rfl, rfl⟩ := skip_inv e1
    clear e1
    exact put_adds f1 _ rfl (by omega) k i' ns' e
theorem stmtG_adds {T : List Tk} {R : Fns} (h : FLv R) (d i : Nat) (ns : List Nd) : Adds ns i (stmtG T R d i ns) := by
  rw [stmtG]
  split
  · exact writeG_adds h d i ns
  split
  · exact choiceG_adds h d i ns
  split
  · exact loopG_adds h d i ns
  split
  · intro k i' ns' e
    obtain ⟨u, i1, ns1, e1, eN⟩ := then_inv e
    clear e
    have e := eN
    clear eN
    obtain ⟨rfl, rfl⟩ := skip_inv e1
    clear e1
    obtain ⟨u, i2, ns2, e1, eN⟩ := then_inv e
    clear e
    have e := eN
    clear eN
    obtain ⟨rfl, rfl⟩ := skip_inv e1
    clear e1
    have := put_adds (pre := ns2) (seg := []) (Forest.nil _) ⟨25, empS, 0, []⟩ rfl (i := i + 1 + 1) (i0 := i) (by omega)
    rw [List.append_nil] at this
    exact this k i' ns' e
  split
  · intro k i' ns' e
    obtain ⟨u, i1, ns1, e1, eN⟩ := then_inv e
    clear e
    have e := eN
    clear eN
    obtain ⟨rfl, rfl⟩ := skip_inv e1
    clear e1
    obtain ⟨y, i4, ns4, e1, eN⟩ := then_inv e
    clear e
    have e := eN
    clear eN
    obtain ⟨l1, seg, rfl, f1⟩ := exprG_adds h _ _ _ _ _ _ e1
    clear e1
    obtain ⟨u, i5, ns5, e1, eN⟩ := then_inv e
    clear e
    have e := eN
    clear eN
    obtain ⟨rfl, rfl⟩ := skip_inv e1
    clear e1
    exact put_adds f1 _ rfl (by omega) k i' ns' e
  · exact assignG_adds h d i ns
theorem blockLG_adds {T : List Tk} {R : Fns} (h : FLv R) (d : Nat) (kids : List Int) (i : Nat) (pre seg : List Nd) (hf : Forest pre.length seg kids) (ks' : List Int) (i' : Nat) (ns' : List Nd) (e : blockLG T R d kids i (pre ++ seg) = .ok ks' i' ns') : i ≤ i' ∧ ∃ seg', ns' = pre ++ seg' ∧ Forest pre.length seg' ks' := by
  rw [blockLG] at e
  split at e
  · injection e with e1 e2 e3
    subst e1 e2 e3
    exact ⟨Nat.le_refl _, seg, rfl, hf⟩
  · obtain ⟨k, i1, ns1, e1, eN⟩ := then_inv e
    clear e
    have e := eN
    clear eN
    obtain ⟨l1, seg2, rfl, f1⟩ := stmtG_adds h _ _ _ _ _ _ e1
    clear e1
    rw [List.length_append] at f1
    rw [List.append_assoc] at e
    obtain ⟨l2, r2⟩ := h.blockL _ _ _ _ _ (hf.append f1) _ _ _ e
    exact ⟨by omega, r2⟩
theorem blockG_adds {T : List Tk} {R : Fns} (h : FLv R) (d i : Nat) (ns : List Nd) : Adds ns i (blockG T R d i ns) := by
  rw [blockG]
  split
  · intro k i' ns' e; cases e
  · intro k i' ns' e
    obtain ⟨u, i1, ns1, e1, eN⟩ := then_inv e
    clear e
    have e := eN
    clear eN
    obtain ⟨rfl, rfl⟩ := skip_inv e1
    clear e1
    obtain ⟨kids, i2, ns2, e1, eN⟩ := then_inv e
    clear e
    have e := eN
    clear eN
    have e1' : blockLG T R (d + 1) [] (i + 1) (ns1 ++ []) = .ok kids i2 ns2 := by rw [List.append_nil]; exact e1
    obtain ⟨l1, seg, rfl, f1⟩ := blockLG_adds h _ _ _ _ _ (Forest.nil _) _ _ _ e1'
    obtain ⟨u, i3, ns3, e1, eN⟩ := then_inv e
    clear e
    have e := eN
    clear eN
    obtain ⟨rfl, rfl⟩ := skip_inv e1
    clear e1
    exact put_adds f1 _ rfl (by omega) k i' ns' e

theorem fns_adds (T : List Tk) : ∀ n, FLv (fns T n)
  | 0 => ⟨fun d i ns k i' ns' e => (by cases e), fun d i ns k i' ns' e => (by cases e), fun d k i pre seg _ k' i' ns' e => (by cases e), fun d k i pre seg _ k' i' ns' e => (by cases e), fun d i ns k i' ns' e => (by cases e), fun d kids i pre seg _ ks' i' ns' e => (by cases e)⟩
  | n + 1 =>
    have h := fns_adds T n
    ⟨exprG_adds h, signedG_adds h, prodLG_adds h, sumLG_adds h, blockG_adds h, blockLG_adds h⟩

theorem take_lt {T : List Tk} {i : Nat} {ns : List Nd} {t : Tk} {i' : Nat} {ns' : List Nd} (h : takeF T 2 i ns = .ok t i' ns') : i < T.length := by
  rw [takeF] at h
  split at h
  · rename_i hk
    exact kind_lt hk (by omega)
  · cases h
theorem skip_lt {T : List Tk} {x : ByteArray} {i : Nat} {ns : List Nd} {u : Unit} {i' : Nat} {ns' : List Nd} (h : skipF T x i ns = .ok u i' ns') (hx : x ≠ empS) : i < T.length := by
  rw [skipF] at h
  split at h
  · rename_i hk
    exact wS_lt hk hx
  · cases h
theorem paramsL_adds (T : List Tk) : ∀ (n : Nat) (ps : List ByteArray) (i : Nat) (ns : List Nd) (ps' : List ByteArray) (i' : Nat) (ns' : List Nd), paramsL T n ps i ns = .ok ps' i' ns' → ns' = ns ∧ ps'.length + i ≤ ps.length + i' ∧ i ≤ i' ∧ (i ≤ T.length → i' ≤ T.length)
  | 0, ps, i, ns, ps', i', ns', e => by cases e
  | n + 1, ps, i, ns, ps', i', ns', e => by
    rw [paramsL] at e
    split at e
    · obtain ⟨x, i1, ns1, e1, eN⟩ := then_inv e
      clear e
      have e := eN
      clear eN
      have hlt := take_lt e1
      obtain ⟨rfl, rfl⟩ := take_inv e1
      clear e1
      obtain ⟨h1, h2, h3, h4⟩ := paramsL_adds T n _ _ _ _ _ _ e
      rw [List.length_append, List.length_singleton] at h2
      exact ⟨h1, by omega, by omega, fun _ => h4 (by omega)⟩
    · injection e with e1 e2 e3
      subst e1 e2 e3
      exact ⟨rfl, Nat.le_refl _, Nat.le_refl _, fun h => h⟩
theorem procG_adds {T : List Tk} {n i : Nat} {ns : List Nd} {x : Pr} {i' : Nat} {ns' : List Nd} (e : procG T n i ns = .ok x i' ns') : i + 2 + x.ps.length ≤ i' ∧ i + 2 + x.ps.length ≤ T.length ∧ ∃ seg, ns' = ns ++ seg ∧ Forest ns.length seg [x.body] := by
  rw [procG] at e
  obtain ⟨u, i1, ns1, e1, eN⟩ := then_inv e
  clear e
  have e := eN
  clear eN
  obtain ⟨rfl, rfl⟩ := skip_inv e1
  clear e1
  obtain ⟨t, i2, ns2, e1, eN⟩ := then_inv e
  clear e
  have e := eN
  clear eN
  obtain ⟨rfl, rfl⟩ := take_inv e1
  clear e1
  obtain ⟨u, i3, ns3, e1, eN⟩ := then_inv e
  clear e
  have e := eN
  clear eN
  have hlt3 := skip_lt e1 (by decide)
  obtain ⟨rfl, rfl⟩ := skip_inv e1
  clear e1
  obtain ⟨ps, i4, ns4, e1, eN⟩ := then_inv e
  clear e
  have e := eN
  clear eN
  have hps : ns4 = ns3 ∧ ps.length + (i + 1 + 1 + 1) ≤ i4 ∧ i4 ≤ T.length := by
    rw [paramsG] at e1
    split at e1
    · injection e1 with e5 e6 e7
      subst e5 e6 e7
      exact ⟨rfl, by simp, by omega⟩
    · obtain ⟨y, i5, ns5, e2, e3⟩ := then_inv e1
      clear e1
      have hlt5 := take_lt e2
      obtain ⟨rfl, rfl⟩ := take_inv e2
      obtain ⟨h1, h2, h3, h4⟩ := paramsL_adds _ _ _ _ _ _ _ _ e3
      rw [List.length_singleton] at h2
      exact ⟨h1, by omega, h4 (by omega)⟩
  obtain ⟨rfl, hps, hps2⟩ := hps
  obtain ⟨u, i5, ns5, e1, eN⟩ := then_inv e
  clear e
  have e := eN
  clear eN
  obtain ⟨rfl, rfl⟩ := skip_inv e1
  clear e1
  obtain ⟨b, i6, ns6, e1, eN⟩ := then_inv e
  clear e
  have e := eN
  clear eN
  obtain ⟨l1, seg, rfl, f1⟩ := blockG_adds (fns_adds T n) _ _ _ _ _ _ e1
  clear e1
  injection e with e5 e6 e7
  subst e5 e6 e7
  exact ⟨by show i + 2 + ps.length ≤ _; omega, by show i + 2 + ps.length ≤ _; omega, seg, rfl, f1⟩

def psum (ps : List Pr) : Nat := (ps.map fun p => 2 + p.ps.length).sum
theorem psum_snoc (ps : List Pr) (x : Pr) : psum (ps ++ [x]) = psum ps + (2 + x.ps.length) := by simp [psum]
theorem wholeL_adds (T : List Tk) : ∀ (n : Nat) (ps : List Pr) (i : Nat) (ns : List Nd), Forest 0 ns (ps.map (·.body)) → psum ps ≤ i → psum ps ≤ T.length → ∀ ps' i' ns', wholeL T n ps i ns = .ok ps' i' ns' → Forest 0 ns' (ps'.map (·.body)) ∧ psum ps' ≤ T.length
  | 0, ps, i, ns, hf, hp, hp2, ps', i', ns', e => by
    rw [wholeL] at e
    split at e
    · cases e
    · injection e with e1 e2 e3
      subst e1 e2 e3
      exact ⟨hf, hp2⟩
  | n + 1, ps, i, ns, hf, hp, hp2, ps', i', ns', e => by
    rw [wholeL] at e
    split at e
    · obtain ⟨x, i1, ns1, e1, eN⟩ := then_inv e
      clear e
      have e := eN
      clear eN
      obtain ⟨l1, l2, seg, rfl, f1⟩ := procG_adds e1
      clear e1
      refine wholeL_adds T n _ _ _ ?_ ?_ ?_ _ _ _ e
      · rw [List.map_append]
        have f1' : Forest (0 + ns.length) seg [x.body] := by rw [Nat.zero_add]; exact f1
        exact hf.append f1'
      · rw [psum_snoc]; omega
      · rw [psum_snoc]; omega
    · injection e with e1 e2 e3
      subst e1 e2 e3
      exact ⟨hf, hp2⟩

/-- What Parse answers: a forest whose roots are the bodies. -/
theorem parseF_forest (s : ByteArray) : Forest 0 (parseF s).1.1 ((parseF s).1.2.map (·.body)) := by
  rw [parseF]
  split
  · rw [parseT]
    rcases h : wholeL (lexF s).1 (lexF s).1.length [] 0 [] with ⟨ps, i, ns⟩ | i
    · obtain ⟨h1, h2⟩ := wholeL_adds _ _ _ _ _ (Forest.nil 0) (Nat.le_refl _) (Nat.zero_le _) _ _ _ h
      dsimp only
      split
      · exact Forest.nil 0
      · exact h1
    · exact Forest.nil 0
  · exact Forest.nil 0
theorem parseF_small (s : ByteArray) : (parseF s).1.1.length ≤ 800 := by
  rw [parseF]
  split
  · rw [parseT]
    rcases h : wholeL (lexF s).1 (lexF s).1.length [] 0 [] with ⟨ps, i, ns⟩ | i
    · dsimp only
      split
      · exact Nat.zero_le _
      · simp only; omega
    · exact Nat.zero_le _
  · exact Nat.zero_le _
theorem parseF_psum (s : ByteArray) (hl : (lexF s).1.length ≤ 6000) : psum (parseF s).1.2 ≤ 6000 := by
  rw [parseF]
  split
  · rw [parseT]
    rcases h : wholeL (lexF s).1 (lexF s).1.length [] 0 [] with ⟨ps, i, ns⟩ | i
    · obtain ⟨h1, h2⟩ := wholeL_adds _ _ _ _ _ (Forest.nil 0) (Nat.le_refl _) (Nat.zero_le _) _ _ _ h
      dsimp only
      split
      · exact Nat.zero_le _
      · exact Nat.le_trans h2 hl
    · exact Nat.zero_le _
  · exact Nat.zero_le _

end Go.Proofs.Ytkdlgglikhbnkac
