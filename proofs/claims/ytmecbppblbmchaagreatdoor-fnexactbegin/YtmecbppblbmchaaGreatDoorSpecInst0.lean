import Derived.Test.YtmecbppblbmchaaGreatDoorBub
import Derived.Test.YtmecbppblbmchaaGreatDoorL1Own
import Derived.Test.YtmecbppblbmchaaGreatDoorInst2
/- What spec.Install's rows and chains come to, as lists. -/
namespace Go.Proofs.YtmecbppblbmchaaGreatDoor
set_option linter.unusedVariables false
open Go.ChangeShapes Go.WideShapes Go.ChangeAt Go.RowKit Go.Maps Go.Sort
set_option maxRecDepth 100000
attribute [local go_sem ↓] Go.wp_at_zero Go.wp_at_succ

abbrev KLt (x y : Int × Int) : Prop := klB x.1 x.2 y.1 y.2 = true
def rkeys (l : List Rw) : List (Int × Int) := l.map fun c => (c.t, c.r)

theorem rAt_mem {l : List Rw} {i : Nat} (hi : i < l.length) : rAt l i ∈ l := by simp [rAt, List.getElem?_eq_getElem hi]
theorem mem_rAt {l : List Rw} {c : Rw} (h : c ∈ l) : ∃ i, i < l.length ∧ rAt l i = c := by
  obtain ⟨i, hi, e⟩ := List.mem_iff_getElem.1 h
  exact ⟨i, hi, by simp [rAt, List.getElem?_eq_getElem hi, e]⟩
theorem rAt_set_eq {l : List Rw} {i : Nat} (x : Rw) (hi : i < l.length) : rAt (l.set i x) i = x := by simp [rAt, hi]
theorem rAt_set_ne {l : List Rw} {i j : Nat} (x : Rw) (h : i ≠ j) : rAt (l.set i x) j = rAt l j := by simp [rAt, List.getElem?_set_ne h]
theorem cAt_set_eq {l : List Ch} {i : Nat} (x : Ch) (hi : i < l.length) : cAt (l.set i x) i = x := by simp [cAt, hi]
theorem cAt_set_ne {l : List Ch} {i j : Nat} (x : Ch) (h : i ≠ j) : cAt (l.set i x) j = cAt l j := by simp [cAt, List.getElem?_set_ne h]
theorem rkeys_set {l : List Rw} {i : Nat} (hi : i < l.length) (x : Rw) (h1 : x.t = (rAt l i).t) (h2 : x.r = (rAt l i).r) : rkeys (l.set i x) = rkeys l := by
  unfold rkeys
  rw [List.map_set]
  refine List.ext_getElem? fun j => ?_
  by_cases e : i = j
  · subst e
    rw [List.getElem?_set_self (by simpa using hi)]
    simp [rAt, hi] at h1 h2
    simp [hi, h1, h2]
  · rw [List.getElem?_set_ne e]
theorem ckeys_set {l : List Ch} {i : Nat} (hi : i < l.length) (x : Ch) (h1 : x.t = (cAt l i).t) (h2 : x.r = (cAt l i).r) : keysOf (l.set i x) = keysOf l := by
  unfold keysOf
  rw [List.map_set]
  refine List.ext_getElem? fun j => ?_
  by_cases e : i = j
  · subst e
    rw [List.getElem?_set_self (by simpa using hi)]
    simp [cAt, hi] at h1 h2
    simp [hi, h1, h2]
  · rw [List.getElem?_set_ne e]

/-- In a sorted row no two have one key. -/
theorem sorted_inj {ks : List (Int × Int)} (h : ks.Pairwise KLt) {i j : Nat} (hi : i < ks.length) (hj : j < ks.length) (e : ks[i] = ks[j]) : i = j := by
  rcases Nat.lt_trichotomy i j with hlt | e2 | hlt
  · have := List.pairwise_iff_getElem.1 h i j hi hj hlt
    rw [e] at this
    exact (klB_irrefl this).elim
  · exact e2
  · have := List.pairwise_iff_getElem.1 h j i hj hi hlt
    rw [e] at this
    exact (klB_irrefl this).elim
theorem rkeys_inj {l : List Rw} (h : (rkeys l).Pairwise KLt) {i j : Nat} (hi : i < l.length) (hj : j < l.length) (h1 : (rAt l i).t = (rAt l j).t) (h2 : (rAt l i).r = (rAt l j).r) : i = j := by
  refine sorted_inj h (by simpa [rkeys] using hi) (by simpa [rkeys] using hj) ?_
  simp [rAt, hi, hj] at h1 h2
  simp [rkeys, h1, h2]
theorem ckeys_inj {l : List Ch} (h : (keysOf l).Pairwise KLt) {i j : Nat} (hi : i < l.length) (hj : j < l.length) (h1 : (cAt l i).t = (cAt l j).t) (h2 : (cAt l i).r = (cAt l j).r) : i = j := by
  refine sorted_inj h (by simpa [keysOf] using hi) (by simpa [keysOf] using hj) ?_
  simp [cAt, hi, hj] at h1 h2
  simp [keysOf, h1, h2]

/-- The rows by key: sorted, and they have the last values. -/
theorem rowsL_spec (l : List Rw) : ∀ k, (rkeys (rowsL l k)).Pairwise KLt ∧ ∀ t r v, (∃ i, i < (rowsL l k).length ∧ (rAt (rowsL l k) i).t = t ∧ (rAt (rowsL l k) i).r = r ∧ (rAt (rowsL l k) i).v = v) ↔ lv l k t r = some v
  | 0 => ⟨by simp [rowsL, rkeys], fun t r v => by simp [rowsL, lv]⟩
  | k + 1 => by
    obtain ⟨ih1, ih2⟩ := rowsL_spec l k
    rw [rowsL]
    generalize rowsL l k = out at *
    unfold rput
    cases hr : rf out out.length (rAt l k).t (rAt l k).r with
    | some n =>
      obtain ⟨n1, n2, n3⟩ := rf_some hr
      simp only []
      refine ⟨by rw [rkeys_set n1 ⟨(rAt out n).t, (rAt out n).r, (rAt l k).v⟩ rfl rfl]; exact ih1, fun t r v => ?_⟩
      rw [lv]
      by_cases e : t = (rAt l k).t ∧ r = (rAt l k).r
      · rw [if_pos e]
        constructor
        · rintro ⟨i, hi, h1, h2, h3⟩
          rw [List.length_set] at hi
          by_cases ei : n = i
          · subst ei
            rw [rAt_set_eq _ hi] at h3
            rw [← h3]
          · rw [rAt_set_ne _ ei] at h1 h2
            exact absurd (rkeys_inj ih1 n1 hi (by rw [n2, h1, e.1]) (by rw [n3, h2, e.2])) ei
        · intro h
          injection h with h
          exact ⟨n, by simpa using n1, by rw [rAt_set_eq _ n1]; exact ⟨by rw [e.1]; exact n2, by rw [e.2]; exact n3, h⟩⟩
      · rw [if_neg e, ← ih2]
        constructor
        · rintro ⟨i, hi, h1, h2, h3⟩
          rw [List.length_set] at hi
          by_cases ei : n = i
          · subst ei
            rw [rAt_set_eq _ hi] at h1 h2
            exact absurd ⟨by rw [← h1]; exact n2, by rw [← h2]; exact n3⟩ e
          · rw [rAt_set_ne _ ei] at h1 h2 h3
            exact ⟨i, hi, h1, h2, h3⟩
        · rintro ⟨i, hi, h1, h2, h3⟩
          have ei : n ≠ i := fun ei => by subst ei; exact e ⟨by rw [← h1]; exact n2, by rw [← h2]; exact n3⟩
          exact ⟨i, by simpa using hi, by rw [rAt_set_ne _ ei]; exact ⟨h1, h2, h3⟩⟩
    | none =>
      have hno := rf_none hr
      simp only []
      have hp : out.Pairwise (fun a b => kltR a b = true) := List.pairwise_map.1 ih1
      obtain ⟨b1, b2, b3⟩ := bubG_new kltR rw0 (fun a b c => klB_trans) out (rAt l k) hp (fun a ha => by
        obtain ⟨i, hi, rfl⟩ := mem_rAt ha
        exact klB_total (hno i hi))
      generalize bubG kltR rw0 (out ++ [rAt l k]) out.length = out' at *
      refine ⟨List.pairwise_map.2 b1, fun t r v => ?_⟩
      rw [lv]
      by_cases e : t = (rAt l k).t ∧ r = (rAt l k).r
      · rw [if_pos e]
        constructor
        · rintro ⟨i, hi, h1, h2, h3⟩
          rcases (b2 _).1 (rAt_mem hi) with hm | hm
          · obtain ⟨j, hj, ej⟩ := mem_rAt hm
            exact absurd ⟨by rw [ej, h1, e.1], by rw [ej, h2, e.2]⟩ (hno j hj)
          · rw [← h3, hm]
        · intro h
          injection h with h
          obtain ⟨i, hi, ei⟩ := mem_rAt ((b2 (rAt l k)).2 (.inr rfl))
          exact ⟨i, hi, by rw [ei]; exact ⟨e.1.symm, e.2.symm, h⟩⟩
      · rw [if_neg e, ← ih2]
        constructor
        · rintro ⟨i, hi, h1, h2, h3⟩
          rcases (b2 _).1 (rAt_mem hi) with hm | hm
          · obtain ⟨j, hj, ej⟩ := mem_rAt hm
            exact ⟨j, hj, by rw [ej]; exact ⟨h1, h2, h3⟩⟩
          · rw [hm] at h1 h2
            exact absurd ⟨h1.symm, h2.symm⟩ e
        · rintro ⟨i, hi, h1, h2, h3⟩
          obtain ⟨j, hj, ej⟩ := mem_rAt ((b2 _).2 (.inl (rAt_mem hi)))
          exact ⟨j, hj, by rw [ej]; exact ⟨h1, h2, h3⟩⟩

/-- Of rows with no key twice: the last value is the value. -/
theorem lv_sorted {R : List Rw} (h : (rkeys R).Pairwise KLt) : ∀ {k : Nat}, k ≤ R.length → ∀ t r v, lv R k t r = some v ↔ ∃ i, i < k ∧ (rAt R i).t = t ∧ (rAt R i).r = r ∧ (rAt R i).v = v
  | 0, _, t, r, v => by simp [lv]
  | k + 1, hk, t, r, v => by
    have ih := lv_sorted h (k := k) (by omega) t r v
    rw [lv]
    by_cases e : t = (rAt R k).t ∧ r = (rAt R k).r
    · rw [if_pos e]
      constructor
      · intro h; injection h with h; exact ⟨k, by omega, e.1.symm, e.2.symm, h⟩
      · rintro ⟨i, hi, h1, h2, h3⟩
        have : i = k := rkeys_inj h (by omega) (by omega) (by rw [h1, e.1]) (by rw [h2, e.2])
        subst this
        rw [h3]
    · rw [if_neg e, ih]
      constructor
      · rintro ⟨i, hi, h1⟩; exact ⟨i, by omega, h1⟩
      · rintro ⟨i, hi, h1, h2, h3⟩
        have : i ≠ k := fun ei => by subst ei; exact e ⟨h1.symm, h2.symm⟩
        exact ⟨i, by omega, h1, h2, h3⟩

theorem opt_eq {a b : Option Int} (h : ∀ v, a = some v ↔ b = some v) : a = b := by
  cases a with
  | none => cases b with
    | none => rfl
    | some x => exact ((h x).2 rfl)
  | some x => exact ((h x).1 rfl).symm

theorem lv_rowsL (l : List Rw) (t r : Int) : lv (rowsL l l.length) (rowsL l l.length).length t r = lv l l.length t r := by
  obtain ⟨h1, h2⟩ := rowsL_spec l l.length
  exact opt_eq fun v => (lv_sorted h1 (Nat.le_refl _) t r v).trans (h2 t r v)

/-- The chains behind the first k rows. -/
def Puts (l : List Ch) (h : Int) (R : List Rw) : Nat → List Ch → Prop
  | 0, L => L = l
  | k + 1, L => ∃ L0, Puts l h R k L0 ∧ IsPut L0 (rAt R k).t (rAt R k).r (h, (rAt R k).v) L

def extL (R : List Rw) (h : Int) (k : Nat) (t r : Int) : List Vr := match lv R k t r with | some v => [(h, v)] | none => []

/-- Sorted chains; each key's list is the old one and what was put. -/
def Cont (l : List Ch) (h : Int) (R : List Rw) (k : Nat) (L : List Ch) : Prop :=
  (keysOf L).Pairwise KLt ∧ (∀ i, i < L.length → (cAt L i).l = listAt l (cAt L i).t (cAt L i).r ++ extL R h k (cAt L i).t (cAt L i).r) ∧
    ∀ t r, (∃ i, i < L.length ∧ km L i t r) ↔ ((∃ i, i < l.length ∧ km l i t r) ∨ (lv R k t r).isSome = true)

theorem Puts.cont {l : List Ch} (hs : storeOk l) {h : Int} {R : List Rw} (hR : (rkeys R).Pairwise KLt) : ∀ {k : Nat}, k ≤ R.length → ∀ {L : List Ch}, Puts l h R k L → Cont l h R k L
  | 0, _, L, hp => by
    have : L = l := hp
    subst this
    exact ⟨keysOf_sorted hs, fun i hi => by rw [listAt_is hs hi ⟨rfl, rfl⟩]; simp [extL, lv], fun t r => by simp [lv]⟩
  | k + 1, hk, L, hp => by
    obtain ⟨L0, hp0, hput⟩ := hp
    obtain ⟨c1, c2, c3⟩ := Puts.cont hs hR (k := k) (by omega) hp0
    have hnone : lv R k (rAt R k).t (rAt R k).r = none := by
      cases e : lv R k (rAt R k).t (rAt R k).r with
      | none => rfl
      | some v =>
        obtain ⟨i, hi, h1, h2, _⟩ := (lv_sorted hR (by omega) _ _ _).1 e
        have := rkeys_inj hR (show i < R.length by omega) (show k < R.length by omega) h1 h2
        omega
    have hlv : ∀ t r, lv R (k + 1) t r = if t = (rAt R k).t ∧ r = (rAt R k).r then some (rAt R k).v else lv R k t r := fun t r => rfl
    rcases hput with ⟨n, hn, hkm, _, rfl⟩ | ⟨hno, rfl⟩
    · obtain ⟨k1, k2⟩ := hkm
      have hset : ∀ x : Ch, x.t = (rAt R k).t → x.r = (rAt R k).r → keysOf (L0.set n x) = keysOf L0 := fun x h1 h2 => ckeys_set hn x (by rw [h1, k1]) (by rw [h2, k2])
      refine ⟨by rw [hset _ rfl rfl]; exact c1, fun i hi => ?_, fun t r => ?_⟩
      · rw [List.length_set] at hi
        by_cases ei : n = i
        · subst ei
          rw [cAt_set_eq _ hi]
          simp only [extL, hlv, and_self, if_true]
          have := c2 n hi
          rw [k1, k2] at this
          rw [this]
          simp [extL, hnone]
        · rw [cAt_set_ne _ ei, c2 i hi]
          have hne : ¬ ((cAt L0 i).t = (rAt R k).t ∧ (cAt L0 i).r = (rAt R k).r) := fun e => ei (ckeys_inj c1 hn hi (by rw [k1, e.1]) (by rw [k2, e.2]))
          simp only [extL, hlv, if_neg hne]
      · have : (∃ i, i < (L0.set n ⟨(rAt R k).t, (rAt R k).r, (cAt L0 n).l ++ [(h, (rAt R k).v)]⟩).length ∧ km (L0.set n ⟨(rAt R k).t, (rAt R k).r, (cAt L0 n).l ++ [(h, (rAt R k).v)]⟩) i t r) ↔ ∃ i, i < L0.length ∧ km L0 i t r := by
          rw [← keysOf_mem, ← keysOf_mem, hset _ rfl rfl]
        rw [this, c3, hlv]
        by_cases e : t = (rAt R k).t ∧ r = (rAt R k).r
        · rw [if_pos e]
          have h1 : ∃ i, i < L0.length ∧ km L0 i t r := ⟨n, hn, by rw [e.1, e.2]; exact ⟨k1, k2⟩⟩
          rw [c3] at h1
          constructor
          · intro _; exact .inr rfl
          · intro _; exact h1
        · rw [if_neg e]
    · have hp : L0.Pairwise (fun a b => kltC a b = true) := List.pairwise_map.1 c1
      rw [bub_is]
      obtain ⟨b1, b2, b3⟩ := bubG_new kltC ch0 (fun a b c => klB_trans) L0 ⟨(rAt R k).t, (rAt R k).r, [(h, (rAt R k).v)]⟩ hp (fun a ha => by
        obtain ⟨i, hi, rfl⟩ := mem_cAt ha
        exact klB_total (hno i hi))
      generalize bubG kltC ch0 (L0 ++ [⟨(rAt R k).t, (rAt R k).r, [(h, (rAt R k).v)]⟩]) L0.length = L' at *
      have hnol : ∀ i, i < l.length → ¬ km l i (rAt R k).t (rAt R k).r := fun i hi hk2 => by
        obtain ⟨j, hj, hj2⟩ := (c3 _ _).2 (.inl ⟨i, hi, hk2⟩)
        exact hno j hj hj2
      refine ⟨List.pairwise_map.2 b1, fun i hi => ?_, fun t r => ?_⟩
      · rcases (b2 _).1 (cAt_mem hi) with hm | hm
        · obtain ⟨j, hj, ej⟩ := mem_cAt hm
          have := c2 j hj
          rw [ej] at this
          rw [this]
          have hne : ¬ ((cAt L' i).t = (rAt R k).t ∧ (cAt L' i).r = (rAt R k).r) := fun e => hno j hj (by rw [km, ej]; exact e)
          simp only [extL, hlv, if_neg hne]
        · rw [hm]
          simp only [extL, hlv, and_self, if_true]
          rw [listAt_none hnol]
          rfl
      · rw [hlv]
        by_cases e : t = (rAt R k).t ∧ r = (rAt R k).r
        · rw [if_pos e]
          constructor
          · intro _; exact .inr rfl
          · intro _
            obtain ⟨i, hi, ei⟩ := mem_cAt ((b2 _).2 (.inr rfl))
            exact ⟨i, hi, by rw [km, ei, e.1, e.2]; exact ⟨rfl, rfl⟩⟩
        · rw [if_neg e, ← c3]
          constructor
          · rintro ⟨i, hi, h1, h2⟩
            rcases (b2 _).1 (cAt_mem hi) with hm | hm
            · obtain ⟨j, hj, ej⟩ := mem_cAt hm
              exact ⟨j, hj, by rw [km, ej]; exact ⟨h1, h2⟩⟩
            · rw [hm] at h1 h2
              exact absurd ⟨h1.symm, h2.symm⟩ e
          · rintro ⟨i, hi, h1, h2⟩
            obtain ⟨j, hj, ej⟩ := mem_cAt ((b2 _).2 (.inl (cAt_mem hi)))
            exact ⟨j, hj, by rw [km, ej]; exact ⟨h1, h2⟩⟩

/-- In the end: the chains that Install is to answer. -/
theorem Puts.done {l : List Ch} (hs : storeOk l) {h : Int} {r : List Rw} (hw : WfCh l) (hwr : WfRw r) {L : List Ch} (hp : Puts l h (rowsL r r.length) (rowsL r r.length).length L) : InstKeys l r (keysOf L) ∧ L = chainsOf (keysOf L) (instL l h r) := by
  obtain ⟨c1, c2, c3⟩ := Puts.cont hs (rowsL_spec r r.length).1 (Nat.le_refl _) hp
  simp only [lv_rowsL] at c3
  have mem : ∀ t r', (t, r') ∈ keysOf L ↔ (∃ i, i < l.length ∧ km l i t r') ∨ (lv r r.length t r').isSome = true := fun t r' => keysOf_mem.trans (c3 t r')
  refine ⟨⟨?_, c1, fun x hx => ?_, fun t r' _ _ => mem t r'⟩, ?_⟩
  · exact c1.imp fun {a b} hab e => by subst e; exact klB_irrefl hab
  · rcases (mem x.1 x.2).1 hx with ⟨i, hi, h1, h2⟩ | h1
    · rw [← h1, ← h2]; exact hw i hi
    · obtain ⟨v, hv⟩ := Option.isSome_iff_exists.1 h1
      obtain ⟨i, hi, h2, h3⟩ := lv_some hv
      rw [← h2, ← h3]
      exact hwr i hi
  · unfold chainsOf keysOf
    rw [List.map_map]
    refine (List.map_id L).symm.trans (List.map_congr_left fun c hc => ?_)
    obtain ⟨i, hi, rfl⟩ := mem_cAt hc
    have e : instL l h r (cAt L i).t (cAt L i).r = (cAt L i).l := by
      rw [c2 i hi]
      unfold instL extL
      rw [lv_rowsL]
      cases lv r r.length (cAt L i).t (cAt L i).r <;> rfl
    show cAt L i = ⟨(cAt L i).t, (cAt L i).r, instL l h r (cAt L i).t (cAt L i).r⟩
    rw [e]

theorem ownV_owns {base : Nat} {w : World} {g cap : Nat} {l : List Vr} (h : w.ownsRow base 123 2 (.slice (some ⟨g, 0, none⟩) l.length cap) l.length (vcells l)) : OwnV w g l ∧ l.length ≤ cap := by
  obtain ⟨h1, ⟨h2, h3⟩ | ⟨b, cap', cur, e, hb, hh, hcap, hm, hc, ht⟩⟩ := h
  · cases h2
  · cases e
    refine ⟨⟨fun j => (vcells l).getD j (.int .i64 0), ⟨cur, hh, by rw [hc]; omega, fun j hj => ?_⟩, fun i hi => ?_⟩, hcap⟩
    · have e : (cur.toList.take (l.length * 2))[j]? = (vcells l)[j]? := by rw [ht]
      rw [List.getElem?_take_of_lt hj, Array.getElem?_toList] at e
      rw [e]
      have hj' : j < (vcells l).length := by rw [vcells_length]; exact hj
      simp [List.getD, List.getElem?_eq_getElem hj']
    · obtain ⟨g1, g2⟩ := vcells_get l i hi
      simp [List.getD, g1, g2]

theorem OwnQ.ownS {base lo : Nat} {w : World} {ov : Value} {q : List Qc} (hlo : lo ≤ base) (h : OwnQ base w ov q) (hs : ∀ i, i < q.length → 0 < (qAt q i).1.l.length) : OwnS lo w ov (qchs q) := by
  have hlen := qchs_length q
  have form : ∀ i, i < q.length → ∃ g cap, (qAt q i).2 = .slice (some ⟨g, 0, none⟩) (qAt q i).1.l.length cap ∧ base ≤ g ∧ g < w.heap.size := fun i hi => by
    obtain ⟨g, cap, e, h1, h2⟩ := (h.lists i hi).form (hs i hi)
    exact ⟨g, cap, e, h1, h2⟩
  obtain ⟨h1, ⟨h2, h3⟩ | ⟨b, cap, cur, hv, hb, hh, hcap, hm, hc, ht⟩⟩ := h.row
  · exact .inl ⟨h2, List.eq_nil_of_length_eq_zero (by rw [hlen]; exact h3)⟩
  · have hbl : b < w.heap.size := (Array.getElem?_eq_some_iff.1 hh).1
    have bs : ∀ i, i < q.length → ∀ g cap, (qAt q i).2 = .slice (some ⟨g, 0, none⟩) (qAt q i).1.l.length cap → ((qAt q i).2.ownBlock).getD 0 = g := fun i hi g cap e => by rw [e]; rfl
    refine .inr ⟨b, fun i => ((qAt q i).2.ownBlock).getD 0, cap, by rw [hlen]; exact hv, by omega, hbl, fun j => (qcells q).getD j (.int .i64 0), ⟨cur, hh, by rw [hc, hlen]; omega, fun j hj => ?_⟩, fun i hi => ?_, fun i j hij hj => ?_⟩
    · rw [hlen] at hj
      have e : (cur.toList.take (q.length * 3))[j]? = (qcells q)[j]? := by rw [ht]
      rw [List.getElem?_take_of_lt hj, Array.getElem?_toList] at e
      rw [e]
      have hj' : j < (qcells q).length := by rw [qcells_length]; exact hj
      simp [List.getD, List.getElem?_eq_getElem hj']
    · rw [hlen] at hi
      obtain ⟨g, cp, e, g1, g2⟩ := form i hi
      obtain ⟨e1, e2, e3⟩ := qcells_get q i hi
      have hl := h.lists i hi
      rw [e] at hl
      obtain ⟨ov1, ov2⟩ := ownV_owns hl
      rw [qchs_at q hi]
      dsimp only
      rw [bs i hi g cp e]
      refine ⟨by simp [List.getD, e1], by simp [List.getD, e2], ⟨cp, ov2, by simp [List.getD, e3, e]⟩, ov1, by omega, g2, fun eb => ?_⟩
      exact (h.apart i hi g (by rw [e]; rfl)).1 (by rw [hv, eb]; rfl)
    · rw [hlen] at hj
      obtain ⟨g, cp, e, g1, g2⟩ := form i (by omega)
      obtain ⟨g', cp', e', g1', g2'⟩ := form j hj
      simp only [bs i (by omega) g cp e, bs j hj g' cp' e']
      intro eq
      exact (h.apart i (by omega) g (by rw [e]; rfl)).2 j hj (by omega) (by rw [e', eq]; rfl)

theorem isLastAt_lastO {l : List Ch} (hs : storeOk l) {t r x : Int} (h : IsLastAt l t r x) : x = lastO (listAt l t r) := by
  rcases h with ⟨rfl, hno⟩ | ⟨n, hn, hkm, _, rfl⟩
  · rw [listAt_none hno]; rfl
  · rw [listAt_is hs hn hkm, lastO, if_neg (by have := (hs.2 n hn).2.2.1; omega)]
    rfl

theorem l1last_is (v : Value) (l : List Ch) (t r : Int) (w : World) {lo hi : Nat} (hl : ChainsAt lo hi w v l) (hs : storeOk l) :
    Calls Tryz.prog 59 #[.agg #[v], .agg #[.int .i64 t, .int .i64 r]] w fun e w' => e = .returned (.int .i64 (lastO (listAt l t r))) ∧ Below w.heap.size w w' := by
  refine (l1last_any v l t r w hl hs).mono ?_
  rintro e w' ⟨x, rfl, hx, hb⟩
  rw [isLastAt_lastO hs hx]
  exact ⟨rfl, hb⟩

/-- What spec.Install asks of its arguments. -/
def SArgs (l : List Ch) (h : Int) (r : List Rw) : Prop := storeOk l ∧ 1 ≤ h ∧ hourB h = true ∧ ∀ i, i < r.length → tabB (rAt r i).t = true ∧ lastO (listAt l (rAt r i).t (rAt r i).r) < h

/-- What it answers. -/
def ISAns (lo : Nat) (w' : World) (l : List Ch) (h : Int) (r : List Rw) (e : Ending) : Prop :=
  (¬ SArgs l h r ∧ e = .returned (.tuple #[.agg #[.slice none 0 0], .bool false])) ∨
  (SArgs l h r ∧ ∃ L, Puts l h (rowsL r r.length) (rowsL r r.length).length L ∧ ((¬ storeOk L ∧ e = .returned (.tuple #[.agg #[.slice none 0 0], .bool false])) ∨ (storeOk L ∧ ∃ v', e = .returned (.tuple #[.agg #[v'], .bool true]) ∧ OwnS lo w' v' L)))

theorem IsPut.length {l l' : List Ch} {t r : Int} {x : Vr} (h : IsPut l t r x l') : l'.length ≤ l.length + 1 := by
  rcases h with ⟨n, _, _, _, rfl⟩ | ⟨_, rfl⟩
  · simp
  · rw [bub_is, bubG_length]; simp
theorem Puts.length {l : List Ch} {h : Int} {R : List Rw} : ∀ {k : Nat} {L : List Ch}, Puts l h R k L → L.length ≤ l.length + k
  | 0, L, hp => by have : L = l := hp; subst this; exact Nat.le_refl _
  | k + 1, L, ⟨L0, hp, hput⟩ => by have := Puts.length hp; have := hput.length; omega

theorem Cont.lists {l : List Ch} (hs : storeOk l) {h : Int} {R : List Rw} {k : Nat} {L : List Ch} (hc : Cont l h R k L) {i : Nat} (hi : i < L.length) : 0 < (cAt L i).l.length ∧ (cAt L i).l.length ≤ 1048576 := by
  obtain ⟨c1, c2, c3⟩ := hc
  rw [c2 i hi, List.length_append]
  have hext : (extL R h k (cAt L i).t (cAt L i).r).length ≤ 1 := by unfold extL; split <;> simp
  by_cases hk : ∃ j, j < l.length ∧ km l j (cAt L i).t (cAt L i).r
  · obtain ⟨j, hj, hkm⟩ := hk
    rw [listAt_is hs hj hkm]
    have := (hs.2 j hj).2.2
    have h1 := this.1
    have h2 := this.2.1
    omega
  · rw [listAt_none (fun j hj hkm => hk ⟨j, hj, hkm⟩)]
    have := (c3 (cAt L i).t (cAt L i).r).1 ⟨i, hi, rfl, rfl⟩
    rcases this with h1 | h1
    · exact absurd h1 hk
    · obtain ⟨v, hv⟩ := Option.isSome_iff_exists.1 h1
      have : extL R h k (cAt L i).t (cAt L i).r = [(h, v)] := by unfold extL; rw [hv]
      rw [this]
      simp

end Go.Proofs.YtmecbppblbmchaaGreatDoor
