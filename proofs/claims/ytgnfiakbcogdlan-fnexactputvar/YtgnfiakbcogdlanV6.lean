/- (impl.variables).list: the variables of a map, by their names. -/
import Derived.Test.YtgnfiakbcogdlanV5
import Derived.Sort.Walk0
import Derived.Deep.Onto
namespace Go.Proofs.Ytgnfiakbcogdlan
open Go.ChangeShapes Go.WideShapes Go.ChangeAt Go.RowKit Go.Maps Go.Deep Go.Joins Go.Sort Go.Shelf
set_option linter.unusedVariables false
set_option maxRecDepth 100000
attribute [local go_sem ↓] Go.wp_at_zero Go.wp_at_succ

/-! ### Names in order -/

theorem ltS_iff (x y : ByteArray) : ltS x y = true ↔ x.data.toList < y.data.toList := by
  rw [ltS, bytesLess_eq, ByteArray.toList_eq, ByteArray.toList_eq]; simp
theorem ltS_irr (x : ByteArray) : ¬ ltS x x = true := by rw [ltS_iff]; exact List.lt_irrefl _
theorem ltS_trans {x y z : ByteArray} (h1 : ltS x y = true) (h2 : ltS y z = true) : ltS x z = true := by rw [ltS_iff] at *; exact List.lt_trans h1 h2
theorem ltS_tri {x y : ByteArray} (h1 : ¬ ltS x y = true) (h2 : ¬ ltS y x = true) : x = y := by
  rw [ltS_iff] at h1 h2
  exact bytes_inj (List.le_antisymm (List.not_lt.1 h2) (List.not_lt.1 h1))
theorem ltS_ne {x y : ByteArray} (h : ltS x y = true) : x ≠ y := fun e => ltS_irr x (by rw [← e] at h; exact h)

def ascV (l : List Va) : Prop := l.Pairwise fun x y => ltS x.1 y.1 = true
/-- Variables in order that have the values f. -/
structure VarsOf (f : ByteArray → Option Int) (l : List Va) : Prop where
  asc : ascV l
  siz : ∀ x ∈ l, x.1.size ≤ maxLen
  val : ∀ s, s.size ≤ maxLen → firstV l s = f s

theorem firstV_none {l : List Va} {s : ByteArray} (h : ∀ x ∈ l, s ≠ x.1) : firstV l s = none := by
  induction l with
  | nil => rfl
  | cons x l ih => simp only [firstV]; rw [if_neg (h x (List.mem_cons_self ..)), ih fun y hy => h y (List.mem_cons_of_mem _ hy)]
theorem ascV.head_abs {y : Va} {l : List Va} (h : ascV (y :: l)) {s : ByteArray} (hk : ltS s y.1 = true) : firstV (y :: l) s = none :=
  firstV_none fun z hz => by
    rcases List.mem_cons.1 hz with rfl | hz
    · exact ltS_ne hk
    · exact ltS_ne (ltS_trans hk ((List.pairwise_cons.1 h).1 z hz))
theorem ascV.tail_abs {x : Va} {l : List Va} (h : ascV (x :: l)) : firstV l x.1 = none := firstV_none fun z hz => ltS_ne ((List.pairwise_cons.1 h).1 z hz)

theorem vars_one : ∀ {l l' : List Va}, ascV l → ascV l' → (∀ x ∈ l, x.1.size ≤ maxLen) → (∀ x ∈ l', x.1.size ≤ maxLen) → (∀ s, s.size ≤ maxLen → firstV l s = firstV l' s) → l = l'
  | [], [], _, _, _, _, _ => rfl
  | [], y :: l', _, _, _, sy, h => by
    have := h y.1 (sy y (List.mem_cons_self ..))
    simp [firstV] at this
  | x :: l, [], _, _, sx, _, h => by
    have := h x.1 (sx x (List.mem_cons_self ..))
    simp [firstV] at this
  | x :: l, y :: l', h1, h2, sx, sy, h => by
    have hx : firstV (x :: l) x.1 = some x.2 := by simp [firstV]
    have hy : firstV (y :: l') y.1 = some y.2 := by simp [firstV]
    have k1 : ¬ ltS x.1 y.1 = true := fun k => by
      have := ascV.head_abs h2 k
      rw [← h x.1 (sx x (List.mem_cons_self ..)), hx] at this
      cases this
    have k2 : ¬ ltS y.1 x.1 = true := fun k => by
      have := ascV.head_abs h1 k
      rw [h y.1 (sy y (List.mem_cons_self ..)), hy] at this
      cases this
    have e1 := ltS_tri k1 k2
    have e2 : x.2 = y.2 := by
      have := h x.1 (sx x (List.mem_cons_self ..))
      rw [hx, e1, hy] at this
      exact Option.some.inj this
    obtain rfl : x = y := Prod.ext e1 e2
    congr 1
    refine vars_one (List.pairwise_cons.1 h1).2 (List.pairwise_cons.1 h2).2 (fun z hz => sx z (List.mem_cons_of_mem _ hz)) (fun z hz => sy z (List.mem_cons_of_mem _ hz)) fun s hs => ?_
    by_cases e : s = x.1
    · subst e
      rw [ascV.tail_abs h1, ascV.tail_abs h2]
    · have := h s hs
      simp only [firstV] at this
      rw [if_neg e, if_neg e] at this
      exact this
theorem VarsOf.one {f : ByteArray → Option Int} {l l' : List Va} (h : VarsOf f l) (h' : VarsOf f l') : l = l' :=
  vars_one h.asc h'.asc h.siz h'.siz fun s hs => by rw [h.val s hs, h'.val s hs]

/-! ### The keys of the map -/

theorem mem_keys {w : World} {b n : Nat} {D : DataW Value} {f : ByteArray → Option Int} (hown : w.ownsMap Try.prog 9 KS b n D) (hat : AtS D f) : (strKeys D).Nodup ∧ (∀ x ∈ strKeys D, x.length ≤ maxLen) ∧ ∀ x : List UInt8, x.length ≤ maxLen → (x ∈ strKeys D ↔ (f ⟨x.toArray⟩).isSome = true) := by
  obtain ⟨es, e1, hk⟩ := hown.keysOf
  obtain ⟨es', e2, hp⟩ := hown.tidy slaw
  subst e1
  obtain rfl : es = es' := by injection e2
  have hks : ∀ p ∈ es, ∃ x : List UInt8, p.1 = .string x ∧ x.length ≤ maxLen := fun p hpm => by
    obtain ⟨v, hv⟩ := hk p hpm
    obtain ⟨x, _, h2, h3⟩ := Maps.keyOf_str Try.underlying9 hv
    exact ⟨x, h2, h3⟩
  have hmem : ∀ x : List UInt8, x ∈ strKeys (.map es : DataW Value) ↔ Maps.has (.map es : DataW Value) (.string x) = true := fun x => by
    rw [has_eq, List.any_eq_true]
    show x ∈ es.map (fun p => strOf p.1) ↔ _
    constructor
    · intro hm
      obtain ⟨p, hpm, e⟩ := List.mem_map.1 hm
      obtain ⟨y, hy, _⟩ := hks p hpm
      refine ⟨p, hpm, ?_⟩
      rw [hy] at e ⊢
      have : y = x := by simpa [strOf] using e
      subst this
      simp [Lit.sameKey]
    · rintro ⟨p, hpm, e⟩
      have e' : p.1 = .string x := by
        by_cases hc : p.1 = .string x
        · exact hc
        · rw [sameKey_ne hc] at e; cases e
      exact List.mem_map.2 ⟨p, hpm, by rw [e']; rfl⟩
  refine ⟨?_, ?_, fun x hx => ?_⟩
  · show (es.map (fun p => strOf p.1)).Nodup
    refine List.pairwise_map.2 (List.Pairwise.imp_of_mem ?_ hp)
    intro p q hpm hqm hne e
    obtain ⟨x, hx, _⟩ := hks p hpm
    obtain ⟨y, hy, _⟩ := hks q hqm
    apply hne
    rw [hx, hy] at e ⊢
    simpa [strOf] using e
  · intro x hx
    obtain ⟨p, hpm, e⟩ := List.mem_map.1 hx
    obtain ⟨y, hy, hl⟩ := hks p hpm
    rw [hy] at e
    have : y = x := by simpa [strOf] using e
    rw [← this]; exact hl
  · rw [hmem x]
    have hsl : slit ⟨x.toArray⟩ = .string x := by simp [slit]
    have hsz : (ByteArray.mk x.toArray).size ≤ maxLen := by simpa [ByteArray.size] using hx
    cases hf : f ⟨x.toArray⟩ with
    | none =>
      have := has_false_of_atKey (D := (.map es : DataW Value)) (k := .string x) fun z => by rw [← hsl, hat.2 _ hsz z, hf]
      simp [this]
    | some v =>
      have := has_true_of_atKey (D := (.map es : DataW Value)) (k := .string x) (y := .held (.int .i64 v)) fun z => by rw [← hsl, hat.2 _ hsz z, hf]
      simp [this]

/-- The variables of the names ns. -/
def varsOfN (f : ByteArray → Option Int) (ns : List (List UInt8)) : List Va := ns.map fun x => (⟨x.toArray⟩, (f ⟨x.toArray⟩).getD 0)
def nAt (ns : List (List UInt8)) (i : Nat) : List UInt8 := ns.getD i []
theorem varsOfN_snoc (f : ByteArray → Option Int) (ns : List (List UInt8)) {k : Nat} (h : k < ns.length) : varsOfN f (ns.take (k + 1)) = varsOfN f (ns.take k) ++ [(⟨(nAt ns k).toArray⟩, (f ⟨(nAt ns k).toArray⟩).getD 0)] := by
  have e : nAt ns k = ns[k] := by simp [nAt, h]
  rw [List.take_succ_eq_append_getElem h, e]
  simp only [varsOfN, List.map_append, List.map_cons, List.map_nil]
theorem firstV_varsOfN (f : ByteArray → Option Int) (s : ByteArray) : ∀ (ns : List (List UInt8)), firstV (varsOfN f ns) s = if s.data.toList ∈ ns then some ((f s).getD 0) else none
  | [] => by simp [varsOfN, firstV]
  | x :: ns => by
    have ih := firstV_varsOfN f s ns
    show firstV ((⟨x.toArray⟩, (f ⟨x.toArray⟩).getD 0) :: varsOfN f ns) s = _
    simp only [firstV]
    by_cases e : s = ⟨x.toArray⟩
    · subst e
      simp
    · rw [if_neg e, ih]
      have : ¬ s.data.toList = x := fun h => e (bytes_inj (by rw [h]))
      simp [this]

theorem varsOfN_is {w : World} {b n : Nat} {D : DataW Value} {f : ByteArray → Option Int} (hown : w.ownsMap Try.prog 9 KS b n D) (hat : AtS D f) {ss : List (List UInt8)} (hp : ss.Perm (strKeys D)) : VarsOf f (varsOfN f (ss.mergeSort (fun x y => decide (x ≤ y)))) := by
  obtain ⟨hnd, hle, hmem⟩ := mem_keys hown hat
  have hpm : (ss.mergeSort (fun x y => decide (x ≤ y))).Perm (strKeys D) := (List.mergeSort_perm _ _).trans hp
  refine ⟨?_, ?_, fun s hs => ?_⟩
  · refine List.pairwise_map.2 ?_
    have h1 : (ss.mergeSort (fun x y => decide (x ≤ y))).Pairwise fun x y => decide (x ≤ y) = true := by
      refine List.pairwise_mergeSort (fun a b c h1 h2 => ?_) (fun a b => ?_) _
      · simp only [decide_eq_true_eq] at *; exact List.le_trans h1 h2
      · simp only [Bool.or_eq_true, decide_eq_true_eq]; exact List.le_total a b
    have h2 : (ss.mergeSort (fun x y => decide (x ≤ y))).Nodup := hpm.nodup_iff.2 hnd
    refine (List.Pairwise.and h1 h2).imp ?_
    rintro x y ⟨ha, hb⟩
    rw [ltS_iff]
    simp only [decide_eq_true_eq] at ha
    show x < y
    refine Classical.byContradiction fun hc => hb ?_
    exact List.le_antisymm ha (List.not_lt.1 hc)
  · intro x hx
    obtain ⟨y, hy, rfl⟩ := List.mem_map.1 hx
    have := hle y (hpm.mem_iff.1 hy)
    simpa [ByteArray.size] using this
  · rw [firstV_varsOfN]
    have hl : s.data.toList.length ≤ maxLen := by rw [Array.length_toList]; exact hs
    have e : (⟨s.data.toList.toArray⟩ : ByteArray) = s := bytes_inj (by simp)
    have hm := hmem s.data.toList hl
    rw [e] at hm
    by_cases hin : s.data.toList ∈ strKeys D
    · rw [if_pos (hpm.mem_iff.2 hin)]
      obtain ⟨v, hv⟩ := Option.isSome_iff_exists.1 (hm.1 hin)
      rw [hv]; rfl
    · rw [if_neg (fun h => hin (hpm.mem_iff.1 h))]
      cases hf : f s with
      | none => rfl
      | some v => exact absurd (hm.2 (by rw [hf]; rfl)) hin
end Go.Proofs.Ytgnfiakbcogdlan
