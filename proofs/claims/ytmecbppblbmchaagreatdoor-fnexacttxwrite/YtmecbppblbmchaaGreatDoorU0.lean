import Derived.Test.YtmecbppblbmchaaGreatDoorBub
import Derived.Test.YtmecbppblbmchaaGreatDoorL1Own
import Derived.Test.YtmecbppblbmchaaGreatDoorInst2
import Derived.Test.YtmecbppblbmchaaGreatDoorAppSeq
/- What spec.Install's rows and chains come to, as lists. -/
namespace Go.Proofs.YtmecbppblbmchaaGreatDoor
set_option linter.unusedVariables false
open Go.ChangeShapes Go.WideShapes Go.ChangeAt Go.RowKit Go.Maps Go.Sort
set_option maxRecDepth 100000
attribute [local go_sem ↓] Go.wp_at_zero Go.wp_at_succ

abbrev KLt (x y : Int × Int) : Prop := klB x.1 x.2 y.1 y.2 = true
def rkeys (l : List Rw) : List (Int × Int) := l.map fun c => (c.t, c.r)

theorem rAt_mem {l : List Rw} {i : Nat} (hi : i < l.length) : rAt l i ∈ l := by simp [rAt, List.getElem?_eq_getElem hi]
theorem mem_rAt {l : List Rw} {c : Rw} (h : c ∈ l) : ∃ i, i < l.length ∧ rAt l i = c := by
  obtain ⟨i, hi, e⟩ := List.mem_iff_getElem.1 h
  exact ⟨i, hi, by simp [rAt, List.getElem?_eq_getElem hi, e]⟩
theorem rAt_set_eq {l : List Rw} {i : Nat} (x : Rw) (hi : i < l.length) : rAt (l.set i x) i = x := by simp [rAt, hi]
theorem rAt_set_ne {l : List Rw} {i j : Nat} (x : Rw) (h : i ≠ j) : rAt (l.set i x) j = rAt l j := by simp [rAt, List.getElem?_set_ne h]
theorem cAt_set_eq {l : List Ch} {i : Nat} (x : Ch) (hi : i < l.length) : cAt (l.set i x) i = x := by simp [cAt, hi]
theorem cAt_set_ne {l : List Ch} {i j : Nat} (x : Ch) (h : i ≠ j) : cAt (l.set i x) j = cAt l j := by simp [cAt, List.getElem?_set_ne h]
theorem rkeys_set {l : List Rw} {i : Nat} (hi : i < l.length) (x : Rw) (h1 : x.t = (rAt l i).t) (h2 : x.r = (rAt l i).r) : rkeys (l.set i x) = rkeys l := by
  unfold rkeys
  rw [List.map_set]
  refine List.ext_getElem? fun j => ?_
  by_cases e : i = j
  · subst e
    rw [List.getElem?_set_self (by simpa using hi)]
    simp [rAt, hi] at h1 h2
    simp [hi, h1, h2]
  · rw [List.getElem?_set_ne e]
theorem ckeys_set {l : List Ch} {i : Nat} (hi : i < l.length) (x : Ch) (h1 : x.t = (cAt l i).t) (h2 : x.r = (cAt l i).r) : keysOf (l.set i x) = keysOf l := by
  unfold keysOf
  rw [List.map_set]
  refine List.ext_getElem? fun j => ?_
  by_cases e : i = j
  · subst e
    rw [List.getElem?_set_self (by simpa using hi)]
    simp [cAt, hi] at h1 h2
    simp [hi, h1, h2]
  · rw [List.getElem?_set_ne e]

/-- In a sorted row no two have one key. -/
theorem sorted_inj {ks : List (Int × Int)} (h : ks.Pairwise KLt) {i j : Nat} (hi : i < ks.length) (hj : j < ks.length) (e : ks[i] = ks[j]) : i = j := by
  rcases Nat.lt_trichotomy i j with hlt | e2 | hlt
  · have := List.pairwise_iff_getElem.1 h i j hi hj hlt
    rw [e] at this
    exact (klB_irrefl this).elim
  · exact e2
  · have := List.pairwise_iff_getElem.1 h j i hj hi hlt
    rw [e] at this
    exact (klB_irrefl this).elim
theorem rkeys_inj {l : List Rw} (h : (rkeys l).Pairwise KLt) {i j : Nat} (hi : i < l.length) (hj : j < l.length) (h1 : (rAt l i).t = (rAt l j).t) (h2 : (rAt l i).r = (rAt l j).r) : i = j := by
  refine sorted_inj h (by simpa [rkeys] using hi) (by simpa [rkeys] using hj) ?_
  simp [rAt, hi, hj] at h1 h2
  simp [rkeys, h1, h2]
theorem ckeys_inj {l : List Ch} (h : (keysOf l).Pairwise KLt) {i j : Nat} (hi : i < l.length) (hj : j < l.length) (h1 : (cAt l i).t = (cAt l j).t) (h2 : (cAt l i).r = (cAt l j).r) : i = j := by
  refine sorted_inj h (by simpa [keysOf] using hi) (by simpa [keysOf] using hj) ?_
  simp [cAt, hi, hj] at h1 h2
  simp [keysOf, h1, h2]

/-- The rows by key: sorted, and they have the last values. -/
theorem rowsL_spec (l : List Rw) : ∀ k, (rkeys (rowsL l k)).Pairwise KLt ∧ ∀ t r v, (∃ i, i < (rowsL l k).length ∧ (rAt (rowsL l k) i).t = t ∧ (rAt (rowsL l k) i).r = r ∧ (rAt (rowsL l k) i).v = v) ↔ lv l k t r = some v
  | 0 => ⟨by simp [rowsL, rkeys], fun t r v => by simp [rowsL, lv]⟩
  | k + 1 => by
    obtain ⟨ih1, ih2⟩ := rowsL_spec l k
    rw [rowsL]
    generalize rowsL l k = out at *
    unfold rput
    cases hr : rf out out.length (rAt l k).t (rAt l k).r with
    | some n =>
      obtain ⟨n1, n2, n3⟩ := rf_some hr
      simp only []
      refine ⟨by rw [rkeys_set n1 ⟨(rAt out n).t, (rAt out n).r, (rAt l k).v⟩ rfl rfl]; exact ih1, fun t r v => ?_⟩
      rw [lv]
      by_cases e : t = (rAt l k).t ∧ r = (rAt l k).r
      · rw [if_pos e]
        constructor
        · rintro ⟨i, hi, h1, h2, h3⟩
          rw [List.length_set] at hi
          by_cases ei : n = i
          · subst ei
            rw [rAt_set_eq _ hi] at h3
            rw [← h3]
          · rw [rAt_set_ne _ ei] at h1 h2
            exact absurd (rkeys_inj ih1 n1 hi (by rw [n2, h1, e.1]) (by rw [n3, h2, e.2])) ei
        · intro h
          injection h with h
          exact ⟨n, by simpa using n1, by rw [rAt_set_eq _ n1]; exact ⟨by rw [e.1]; exact n2, by rw [e.2]; exact n3, h⟩⟩
      · rw [if_neg e, ← ih2]
        constructor
        · rintro ⟨i, hi, h1, h2, h3⟩
          rw [List.length_set] at hi
          by_cases ei : n = i
          · subst ei
            rw [rAt_set_eq _ hi] at h1 h2
            exact absurd ⟨by rw [← h1]; exact n2, by rw [← h2]; exact n3⟩ e
          · rw [rAt_set_ne _ ei] at h1 h2 h3
            exact ⟨i, hi, h1, h2, h3⟩
        · rintro ⟨i, hi, h1, h2, h3⟩
          have ei : n ≠ i := fun ei => by subst ei; exact e ⟨by rw [← h1]; exact n2, by rw [← h2]; exact n3⟩
          exact ⟨i, by simpa using hi, by rw [rAt_set_ne _ ei]; exact ⟨h1, h2, h3⟩⟩
    | none =>
      have hno := rf_none hr
      simp only []
      have hp : out.Pairwise (fun a b => kltR a b = true) := List.pairwise_map.1 ih1
      obtain ⟨b1, b2, b3⟩ := bubG_new kltR rw0 (fun a b c => klB_trans) out (rAt l k) hp (fun a ha => by
        obtain ⟨i, hi, rfl⟩ := mem_rAt ha
        exact klB_total (hno i hi))
      generalize bubG kltR rw0 (out ++ [rAt l k]) out.length = out' at *
      refine ⟨List.pairwise_map.2 b1, fun t r v => ?_⟩
      rw [lv]
      by_cases e : t = (rAt l k).t ∧ r = (rAt l k).r
      · rw [if_pos e]
        constructor
        · rintro ⟨i, hi, h1, h2, h3⟩
          rcases (b2 _).1 (rAt_mem hi) with hm | hm
          · obtain ⟨j, hj, ej⟩ := mem_rAt hm
            exact absurd ⟨by rw [ej, h1, e.1], by rw [ej, h2, e.2]⟩ (hno j hj)
          · rw [← h3, hm]
        · intro h
          injection h with h
          obtain ⟨i, hi, ei⟩ := mem_rAt ((b2 (rAt l k)).2 (.inr rfl))
          exact ⟨i, hi, by rw [ei]; exact ⟨e.1.symm, e.2.symm, h⟩⟩
      · rw [if_neg e, ← ih2]
        constructor
        · rintro ⟨i, hi, h1, h2, h3⟩
          rcases (b2 _).1 (rAt_mem hi) with hm | hm
          · obtain ⟨j, hj, ej⟩ := mem_rAt hm
            exact ⟨j, hj, by rw [ej]; exact ⟨h1, h2, h3⟩⟩
          · rw [hm] at h1 h2
            exact absurd ⟨h1.symm, h2.symm⟩ e
        · rintro ⟨i, hi, h1, h2, h3⟩
          obtain ⟨j, hj, ej⟩ := mem_rAt ((b2 _).2 (.inl (rAt_mem hi)))
          exact ⟨j, hj, by rw [ej]; exact ⟨h1, h2, h3⟩⟩

/-- Of rows with no key twice: the last value is the value. -/
theorem lv_sorted {R : List Rw} (h : (rkeys R).Pairwise KLt) : ∀ {k : Nat}, k ≤ R.length → ∀ t r v, lv R k t r = some v ↔ ∃ i, i < k ∧ (rAt R i).t = t ∧ (rAt R i).r = r ∧ (rAt R i).v = v
  | 0, _, t, r, v => by simp [lv]
  | k + 1, hk, t, r, v => by
    have ih := lv_sorted h (k := k) (by omega) t r v
    rw [lv]
    by_cases e : t = (rAt R k).t ∧ r = (rAt R k).r
    · rw [if_pos e]
      constructor
      · intro h; injection h with h; exact ⟨k, by omega, e.1.symm, e.2.symm, h⟩
      · rintro ⟨i, hi, h1, h2, h3⟩
        have : i = k := rkeys_inj h (by omega) (by omega) (by rw [h1, e.1]) (by rw [h2, e.2])
        subst this
        rw [h3]
    · rw [if_neg e, ih]
      constructor
      · rintro ⟨i, hi, h1⟩; exact ⟨i, by omega, h1⟩
      · rintro ⟨i, hi, h1, h2, h3⟩
        have : i ≠ k := fun ei => by subst ei; exact e ⟨h1.symm, h2.symm⟩
        exact ⟨i, by omega, h1, h2, h3⟩

theorem opt_eq {a b : Option Int} (h : ∀ v, a = some v ↔ b = some v) : a = b := by
  cases a with
  | none => cases b with
    | none => rfl
    | some x => exact ((h x).2 rfl)
  | some x => exact ((h x).1 rfl).symm

theorem lv_rowsL (l : List Rw) (t r : Int) : lv (rowsL l l.length) (rowsL l l.length).length t r = lv l l.length t r := by
  obtain ⟨h1, h2⟩ := rowsL_spec l l.length
  exact opt_eq fun v => (lv_sorted h1 (Nat.le_refl _) t r v).trans (h2 t r v)

/-- The chains behind the first k rows. -/
def Puts (l : List Ch) (h : Int) (R : List Rw) : Nat → List Ch → Prop
  | 0, L => L = l
  | k + 1, L => ∃ L0, Puts l h R k L0 ∧ IsPut L0 (rAt R k).t (rAt R k).r (h, (rAt R k).v) L

def extL (R : List Rw) (h : Int) (k : Nat) (t r : Int) : List Vr := match lv R k t r with | some v => [(h, v)] | none => []

/-- Sorted chains; each key's list is the old one and what was put. -/
def Cont (l : List Ch) (h : Int) (R : List Rw) (k : Nat) (L : List Ch) : Prop :=
  (keysOf L).Pairwise KLt ∧ (∀ i, i < L.length → (cAt L i).l = listAt l (cAt L i).t (cAt L i).r ++ extL R h k (cAt L i).t (cAt L i).r) ∧
    ∀ t r, (∃ i, i < L.length ∧ km L i t r) ↔ ((∃ i, i < l.length ∧ km l i t r) ∨ (lv R k t r).isSome = true)

theorem Puts.cont {l : List Ch} (hs : storeOk l) {h : Int} {R : List Rw} (hR : (rkeys R).Pairwise KLt) : ∀ {k : Nat}, k ≤ R.length → ∀ {L : List Ch}, Puts l h R k L → Cont l h R k L
  | 0, _, L, hp => by
    have : L = l := hp
    subst this
    exact ⟨keysOf_sorted hs, fun i hi => by rw [listAt_is hs hi ⟨rfl, rfl⟩]; simp [extL, lv], fun t r => by simp [lv]⟩
  | k + 1, hk, L, hp => by
    obtain ⟨L0, hp0, hput⟩ := hp
    obtain ⟨c1, c2, c3⟩ := Puts.cont hs hR (k := k) (by omega) hp0
    have hnone : lv R k (rAt R k).t (rAt R k).r = none := by
      cases e : lv R k (rAt R k).t (rAt R k).r with
      | none => rfl
      | some v =>
        obtain ⟨i, hi, h1, h2, _⟩ := (lv_sorted hR (by omega) _ _ _).1 e
        have := rkeys_inj hR (show i < R.length by omega) (show k < R.length by omega) h1 h2
        omega
    have hlv : ∀ t r, lv R (k + 1) t r = if t = (rAt R k).t ∧ r = (rAt R k).r then some (rAt R k).v else lv R k t r := fun t r => rfl
    rcases hput with ⟨n, hn, hkm, _, rfl⟩ | ⟨hno, rfl⟩
    · obtain ⟨k1, k2⟩ := hkm
      have hset : ∀ x : Ch, x.t = (rAt R k).t → x.r = (rAt R k).r → keysOf (L0.set n x) = keysOf L0 := fun x h1 h2 => ckeys_set hn x (by rw [h1, k1]) (by rw [h2, k2])
      refine ⟨by rw [hset _ rfl rfl]; exact c1, fun i hi => ?_, fun t r => ?_⟩
      · rw [List.length_set] at hi
        by_cases ei : n = i
        · subst ei
          rw [cAt_set_eq _ hi]
          simp only [extL, hlv, and_self, if_true]
          have := c2 n hi
          rw [k1, k2] at this
          rw [this]
          simp [extL, hnone]
        · rw [cAt_set_ne _ ei, c2 i hi]
          have hne : ¬ ((cAt L0 i).t = (rAt R k).t ∧ (cAt L0 i).r = (rAt R k).r) := fun e => ei (ckeys_inj c1 hn hi (by rw [k1, e.1]) (by rw [k2, e.2]))
          simp only [extL, hlv, if_neg hne]
      · have : (∃ i, i < (L0.set n ⟨(rAt R k).t, (rAt R k).r, (cAt L0 n).l ++ [(h, (rAt R k).v)]⟩).length ∧ km (L0.set n ⟨(rAt R k).t, (rAt R k).r, (cAt L0 n).l ++ [(h, (rAt R k).v)]⟩) i t r) ↔ ∃ i, i < L0.length ∧ km L0 i t r := by
          rw [← keysOf_mem, ← keysOf_mem, hset _ rfl rfl]
        rw [this, c3, hlv]
        by_cases e : t = (rAt R k).t ∧ r = (rAt R k).r
        · rw [if_pos e]
          have h1 : ∃ i, i < L0.length ∧ km L0 i t r := ⟨n, hn, by rw [e.1, e.2]; exact ⟨k1, k2⟩⟩
          rw [c3] at h1
          constructor
          · intro _; exact .inr rfl
          · intro _; exact h1
        · rw [if_neg e]
    · have hp : L0.Pairwise (fun a b => kltC a b = true) := List.pairwise_map.1 c1
      rw [bub_is]
      obtain ⟨b1, b2, b3⟩ := bubG_new kltC ch0 (fun a b c => klB_trans) L0 ⟨(rAt R k).t, (rAt R k).r, [(h, (rAt R k).v)]⟩ hp (fun a ha => by
        obtain ⟨i, hi, rfl⟩ := mem_cAt ha
        exact klB_total (hno i hi))
      generalize bubG kltC ch0 (L0 ++ [⟨(rAt R k).t, (rAt R k).r, [(h, (rAt R k).v)]⟩]) L0.length = L' at *
      have hnol : ∀ i, i < l.length → ¬ km l i (rAt R k).t (rAt R k).r := fun i hi hk2 => by
        obtain ⟨j, hj, hj2⟩ := (c3 _ _).2 (.inl ⟨i, hi, hk2⟩)
        exact hno j hj hj2
      refine ⟨List.pairwise_map.2 b1, fun i hi => ?_, fun t r => ?_⟩
      · rcases (b2 _).1 (cAt_mem hi) with hm | hm
        · obtain ⟨j, hj, ej⟩ := mem_cAt hm
          have := c2 j hj
          rw [ej] at this
          rw [this]
          have hne : ¬ ((cAt L' i).t = (rAt R k).t ∧ (cAt L' i).r = (rAt R k).r) := fun e => hno j hj (by rw [km, ej]; exact e)
          simp only [extL, hlv, if_neg hne]
        · rw [hm]
          simp only [extL, hlv, and_self, if_true]
          rw [listAt_none hnol]
          rfl
      · rw [hlv]
        by_cases e : t = (rAt R k).t ∧ r = (rAt R k).r
        · rw [if_pos e]
          constructor
          · intro _; exact .inr rfl
          · intro _
            obtain ⟨i, hi, ei⟩ := mem_cAt ((b2 _).2 (.inr rfl))
            exact ⟨i, hi, by rw [km, ei, e.1, e.2]; exact ⟨rfl, rfl⟩⟩
        · rw [if_neg e, ← c3]
          constructor
          · rintro ⟨i, hi, h1, h2⟩
            rcases (b2 _).1 (cAt_mem hi) with hm | hm
            · obtain ⟨j, hj, ej⟩ := mem_cAt hm
              exact ⟨j, hj, by rw [km, ej]; exact ⟨h1, h2⟩⟩
            · rw [hm] at h1 h2
              exact absurd ⟨h1.symm, h2.symm⟩ e
          · rintro ⟨i, hi, h1, h2⟩
            obtain ⟨j, hj, ej⟩ := mem_cAt ((b2 _).2 (.inl (cAt_mem hi)))
            exact ⟨j, hj, by rw [km, ej]; exact ⟨h1, h2⟩⟩

/-- In the end: the chains that Install is to answer. -/
theorem Puts.done {l : List Ch} (hs : storeOk l) {h : Int} {r : List Rw} (hw : WfCh l) (hwr : WfRw r) {L : List Ch} (hp : Puts l h (rowsL r r.length) (rowsL r r.length).length L) : InstKeys l r (keysOf L) ∧ L = chainsOf (keysOf L) (instL l h r) := by
  obtain ⟨c1, c2, c3⟩ := Puts.cont hs (rowsL_spec r r.length).1 (Nat.le_refl _) hp
  simp only [lv_rowsL] at c3
  have mem : ∀ t r', (t, r') ∈ keysOf L ↔ (∃ i, i < l.length ∧ km l i t r') ∨ (lv r r.length t r').isSome = true := fun t r' => keysOf_mem.trans (c3 t r')
  refine ⟨⟨?_, c1, fun x hx => ?_, fun t r' _ _ => mem t r'⟩, ?_⟩
  · exact c1.imp fun {a b} hab e => by subst e; exact klB_irrefl hab
  · rcases (mem x.1 x.2).1 hx with ⟨i, hi, h1, h2⟩ | h1
    · rw [← h1, ← h2]; exact hw i hi
    · obtain ⟨v, hv⟩ := Option.isSome_iff_exists.1 h1
      obtain ⟨i, hi, h2, h3⟩ := lv_some hv
      rw [← h2, ← h3]
      exact hwr i hi
  · unfold chainsOf keysOf
    rw [List.map_map]
    refine (List.map_id L).symm.trans (List.map_congr_left fun c hc => ?_)
    obtain ⟨i, hi, rfl⟩ := mem_cAt hc
    have e : instL l h r (cAt L i).t (cAt L i).r = (cAt L i).l := by
      rw [c2 i hi]
      unfold instL extL
      rw [lv_rowsL]
      cases lv r r.length (cAt L i).t (cAt L i).r <;> rfl
    show cAt L i = ⟨(cAt L i).t, (cAt L i).r, instL l h r (cAt L i).t (cAt L i).r⟩
    rw [e]

theorem ownV_owns {base : Nat} {w : World} {g cap : Nat} {l : List Vr} (h : w.ownsRow base 123 2 (.slice (some ⟨g, 0, none⟩) l.length cap) l.length (vcells l)) : OwnV w g l ∧ l.length ≤ cap := by
  obtain ⟨h1, ⟨h2, h3⟩ | ⟨b, cap', cur, e, hb, hh, hcap, hm, hc, ht⟩⟩ := h
  · cases h2
  · cases e
    refine ⟨⟨fun j => (vcells l).getD j (.int .i64 0), ⟨cur, hh, by rw [hc]; omega, fun j hj => ?_⟩, fun i hi => ?_⟩, hcap⟩
    · have e : (cur.toList.take (l.length * 2))[j]? = (vcells l)[j]? := by rw [ht]
      rw [List.getElem?_take_of_lt hj, Array.getElem?_toList] at e
      rw [e]
      have hj' : j < (vcells l).length := by rw [vcells_length]; exact hj
      simp [List.getD, List.getElem?_eq_getElem hj']
    · obtain ⟨g1, g2⟩ := vcells_get l i hi
      simp [List.getD, g1, g2]

theorem OwnQ.ownS {base lo : Nat} {w : World} {ov : Value} {q : List Qc} (hlo : lo ≤ base) (h : OwnQ base w ov q) (hs : ∀ i, i < q.length → 0 < (qAt q i).1.l.length) : OwnS lo w ov (qchs q) := by
  have hlen := qchs_length q
  have form : ∀ i, i < q.length → ∃ g cap, (qAt q i).2 = .slice (some ⟨g, 0, none⟩) (qAt q i).1.l.length cap ∧ base ≤ g ∧ g < w.heap.size := fun i hi => by
    obtain ⟨g, cap, e, h1, h2⟩ := (h.lists i hi).form (hs i hi)
    exact ⟨g, cap, e, h1, h2⟩
  obtain ⟨h1, ⟨h2, h3⟩ | ⟨b, cap, cur, hv, hb, hh, hcap, hm, hc, ht⟩⟩ := h.row
  · exact .inl ⟨h2, List.eq_nil_of_length_eq_zero (by rw [hlen]; exact h3)⟩
  · have hbl : b < w.heap.size := (Array.getElem?_eq_some_iff.1 hh).1
    have bs : ∀ i, i < q.length → ∀ g cap, (qAt q i).2 = .slice (some ⟨g, 0, none⟩) (qAt q i).1.l.length cap → ((qAt q i).2.ownBlock).getD 0 = g := fun i hi g cap e => by rw [e]; rfl
    refine .inr ⟨b, fun i => ((qAt q i).2.ownBlock).getD 0, cap, by rw [hlen]; exact hv, by omega, hbl, fun j => (qcells q).getD j (.int .i64 0), ⟨cur, hh, by rw [hc, hlen]; omega, fun j hj => ?_⟩, fun i hi => ?_, fun i j hij hj => ?_⟩
    · rw [hlen] at hj
      have e : (cur.toList.take (q.length * 3))[j]? = (qcells q)[j]? := by rw [ht]
      rw [List.getElem?_take_of_lt hj, Array.getElem?_toList] at e
      rw [e]
      have hj' : j < (qcells q).length := by rw [qcells_length]; exact hj
      simp [List.getD, List.getElem?_eq_getElem hj']
    · rw [hlen] at hi
      obtain ⟨g, cp, e, g1, g2⟩ := form i hi
      obtain ⟨e1, e2, e3⟩ := qcells_get q i hi
      have hl := h.lists i hi
      rw [e] at hl
      obtain ⟨ov1, ov2⟩ := ownV_owns hl
      rw [qchs_at q hi]
      dsimp only
      rw [bs i hi g cp e]
      refine ⟨by simp [List.getD, e1], by simp [List.getD, e2], ⟨cp, ov2, by simp [List.getD, e3, e]⟩, ov1, by omega, g2, fun eb => ?_⟩
      exact (h.apart i hi g (by rw [e]; rfl)).1 (by rw [hv, eb]; rfl)
    · rw [hlen] at hj
      obtain ⟨g, cp, e, g1, g2⟩ := form i (by omega)
      obtain ⟨g', cp', e', g1', g2'⟩ := form j hj
      simp only [bs i (by omega) g cp e, bs j hj g' cp' e']
      intro eq
      exact (h.apart i (by omega) g (by rw [e]; rfl)).2 j hj (by omega) (by rw [e', eq]; rfl)

theorem isLastAt_lastO {l : List Ch} (hs : storeOk l) {t r x : Int} (h : IsLastAt l t r x) : x = lastO (listAt l t r) := by
  rcases h with ⟨rfl, hno⟩ | ⟨n, hn, hkm, _, rfl⟩
  · rw [listAt_none hno]; rfl
  · rw [listAt_is hs hn hkm, lastO, if_neg (by have := (hs.2 n hn).2.2.1; omega)]
    rfl

theorem l1last_is (v : Value) (l : List Ch) (t r : Int) (w : World) {lo hi : Nat} (hl : ChainsAt lo hi w v l) (hs : storeOk l) :
    Calls Tryz.prog 59 #[.agg #[v], .agg #[.int .i64 t, .int .i64 r]] w fun e w' => e = .returned (.int .i64 (lastO (listAt l t r))) ∧ Below w.heap.size w w' := by
  refine (l1last_any v l t r w hl hs).mono ?_
  rintro e w' ⟨x, rfl, hx, hb⟩
  rw [isLastAt_lastO hs hx]
  exact ⟨rfl, hb⟩

/-- What spec.Install asks of its arguments. -/
def SArgs (l : List Ch) (h : Int) (r : List Rw) : Prop := storeOk l ∧ 1 ≤ h ∧ hourB h = true ∧ ∀ i, i < r.length → tabB (rAt r i).t = true ∧ lastO (listAt l (rAt r i).t (rAt r i).r) < h

/-- What it answers. -/
def ISAns (lo : Nat) (w' : World) (l : List Ch) (h : Int) (r : List Rw) (e : Ending) : Prop :=
  (¬ SArgs l h r ∧ e = .returned (.tuple #[.agg #[.slice none 0 0], .bool false])) ∨
  (SArgs l h r ∧ ∃ L, Puts l h (rowsL r r.length) (rowsL r r.length).length L ∧ ((¬ storeOk L ∧ e = .returned (.tuple #[.agg #[.slice none 0 0], .bool false])) ∨ (storeOk L ∧ ∃ v', e = .returned (.tuple #[.agg #[v'], .bool true]) ∧ OwnS lo w' v' L)))

theorem IsPut.length {l l' : List Ch} {t r : Int} {x : Vr} (h : IsPut l t r x l') : l'.length ≤ l.length + 1 := by
  rcases h with ⟨n, _, _, _, rfl⟩ | ⟨_, rfl⟩
  · simp
  · rw [bub_is, bubG_length]; simp
theorem Puts.length {l : List Ch} {h : Int} {R : List Rw} : ∀ {k : Nat} {L : List Ch}, Puts l h R k L → L.length ≤ l.length + k
  | 0, L, hp => by have : L = l := hp; subst this; exact Nat.le_refl _
  | k + 1, L, ⟨L0, hp, hput⟩ => by have := Puts.length hp; have := hput.length; omega

theorem Cont.lists {l : List Ch} (hs : storeOk l) {h : Int} {R : List Rw} {k : Nat} {L : List Ch} (hc : Cont l h R k L) {i : Nat} (hi : i < L.length) : 0 < (cAt L i).l.length ∧ (cAt L i).l.length ≤ 1048576 := by
  obtain ⟨c1, c2, c3⟩ := hc
  rw [c2 i hi, List.length_append]
  have hext : (extL R h k (cAt L i).t (cAt L i).r).length ≤ 1 := by unfold extL; split <;> simp
  by_cases hk : ∃ j, j < l.length ∧ km l j (cAt L i).t (cAt L i).r
  · obtain ⟨j, hj, hkm⟩ := hk
    rw [listAt_is hs hj hkm]
    have := (hs.2 j hj).2.2
    have h1 := this.1
    have h2 := this.2.1
    omega
  · rw [listAt_none (fun j hj hkm => hk ⟨j, hj, hkm⟩)]
    have := (c3 (cAt L i).t (cAt L i).r).1 ⟨i, hi, rfl, rfl⟩
    rcases this with h1 | h1
    · exact absurd h1 hk
    · obtain ⟨v, hv⟩ := Option.isSome_iff_exists.1 h1
      have : extL R h k (cAt L i).t (cAt L i).r = [(h, v)] := by unfold extL; rw [hv]
      rw [this]
      simp

end Go.Proofs.YtmecbppblbmchaaGreatDoor

/- What TxWrite makes of the rows of a transaction: the program's way and the specification's are one. -/
namespace Go.Proofs.YtmecbppblbmchaaGreatDoor
open Go.ChangeShapes Go.WideShapes Go.ChangeAt Go.RowKit Go.Sort
set_option linter.unusedVariables false
set_option maxRecDepth 100000

theorem asc_oneU {α : Type} {lt : α → α → Prop} (irr : ∀ {p q : α}, lt p q → lt q p → False) : ∀ {a b : List α}, a.Pairwise lt → b.Pairwise lt → (∀ x, x ∈ a ↔ x ∈ b) → a = b
  | [], [], _, _, _ => rfl
  | [], y :: b, _, _, h => absurd ((h y).2 (List.mem_cons_self ..)) (List.not_mem_nil)
  | x :: a, [], _, _, h => absurd ((h x).1 (List.mem_cons_self ..)) (List.not_mem_nil)
  | x :: a, y :: b, ha, hb, h => by
    obtain ⟨ha1, ha2⟩ := List.pairwise_cons.1 ha
    obtain ⟨hb1, hb2⟩ := List.pairwise_cons.1 hb
    have exy : x = y := by
      rcases List.mem_cons.1 ((h x).1 (List.mem_cons_self ..)) with e | hx
      · exact e
      · rcases List.mem_cons.1 ((h y).2 (List.mem_cons_self ..)) with e | hy
        · exact e.symm
        · exact (irr (hb1 x hx) (ha1 y hy)).elim
    subst exy
    have hm : ∀ z, z ∈ a ↔ z ∈ b := fun z => by
      constructor
      · intro hz
        rcases List.mem_cons.1 ((h z).1 (List.mem_cons_of_mem _ hz)) with e | h'
        · subst e; exact (irr (ha1 z hz) (ha1 z hz)).elim
        · exact h'
      · intro hz
        rcases List.mem_cons.1 ((h z).2 (List.mem_cons_of_mem _ hz)) with e | h'
        · subst e; exact (irr (hb1 z hz) (hb1 z hz)).elim
        · exact h'
    rw [asc_oneU irr ha2 hb2 hm]

def KLr (a b : Rw) : Prop := klB a.t a.r b.t b.r = true
theorem klr_irr {p q : Rw} (h1 : KLr p q) (h2 : KLr q p) : False := by
  have := klB_trans h1 h2
  rw [klB_no] at this
  cases this
theorem mem_rAtU {l : List Rw} {y : Rw} : y ∈ l ↔ ∃ i, i < l.length ∧ rAt l i = y := by
  rw [List.mem_iff_getElem]
  constructor
  · rintro ⟨i, hi, e⟩
    exact ⟨i, hi, by simp [rAt, hi, e]⟩
  · rintro ⟨i, hi, e⟩
    exact ⟨i, hi, by simpa [rAt, hi] using e⟩
theorem rAt_snoc_lt (l : List Rw) (x : Rw) {i : Nat} (hi : i < l.length) : rAt (l ++ [x]) i = rAt l i := by simp [rAt, List.getD, List.getElem?_append_left hi]
theorem rAt_snoc_eq (l : List Rw) (x : Rw) : rAt (l ++ [x]) l.length = x := by simp [rAt, List.getD]
theorem lv_pre (l : List Rw) (x : Rw) (t r : Int) : ∀ k, k ≤ l.length → lv (l ++ [x]) k t r = lv l k t r
  | 0, _ => rfl
  | k + 1, h => by
    simp only [lv]
    rw [lv_pre l x t r k (by omega), rAt_snoc_lt l x (by omega)]
theorem lv_snoc (l : List Rw) (x : Rw) (t r : Int) : lv (l ++ [x]) (l ++ [x]).length t r = if t = x.t ∧ r = x.r then some x.v else lv l l.length t r := by
  rw [List.length_append, List.length_singleton]
  simp only [lv]
  rw [lv_pre l x t r _ (Nat.le_refl _), rAt_snoc_eq]
theorem rowsUp_pw {l : List Rw} (hu : RowsUp l) : l.Pairwise KLr := List.pairwise_iff_getElem.2 fun i j hi hj hij => by
  have := hu i j hij hj
  simpa [KLr, rAt, hi, hj] using this
theorem up_key {l : List Rw} (hu : RowsUp l) {i j : Nat} (hi : i < l.length) (hj : j < l.length) (h1 : (rAt l i).t = (rAt l j).t) (h2 : (rAt l i).r = (rAt l j).r) : i = j := by
  rcases Nat.lt_trichotomy i j with h | h | h
  · have := hu i j h hj
    rw [h1, h2, klB_no] at this; cases this
  · exact h
  · have := hu j i h hi
    rw [h1, h2, klB_no] at this; cases this
theorem lv_up {l : List Rw} (hu : RowsUp l) (t r v : Int) : lv l l.length t r = some v ↔ (⟨t, r, v⟩ : Rw) ∈ l := by
  have key : ∀ k, k ≤ l.length → (lv l k t r = some v ↔ ∃ i, i < k ∧ rAt l i = ⟨t, r, v⟩) := fun k => by
    induction k with
    | zero => intro _; simp [lv]
    | succ k ih =>
      intro hk
      simp only [lv]
      by_cases e : t = (rAt l k).t ∧ r = (rAt l k).r
      · rw [if_pos e]
        constructor
        · intro h
          injection h with h
          exact ⟨k, by omega, by rw [← h, e.1, e.2]⟩
        · rintro ⟨i, hi, he⟩
          have : i = k := up_key hu (by omega) (by omega) (by rw [he]; exact e.1) (by rw [he]; exact e.2)
          rw [← this, he]
      · rw [if_neg e, ih (by omega)]
        constructor
        · rintro ⟨i, hi, he⟩; exact ⟨i, by omega, he⟩
        · rintro ⟨i, hi, he⟩
          by_cases e' : i = k
          · subst e'; exact absurd ⟨by rw [he], by rw [he]⟩ e
          · exact ⟨i, by omega, he⟩
  rw [key _ (Nat.le_refl _), mem_rAtU]

/-- The rows behind, as the specification says. -/
def wrL (l : List Rw) (t r v : Int) : List Rw := rowsL (l ++ [⟨t, r, v⟩]) (l ++ [(⟨t, r, v⟩ : Rw)]).length
theorem wrL_pw (l : List Rw) (t r v : Int) : (wrL l t r v).Pairwise KLr := by
  have := (rowsL_spec (l ++ [⟨t, r, v⟩]) (l ++ [(⟨t, r, v⟩ : Rw)]).length).1
  rw [rkeys, List.pairwise_map] at this
  exact this
theorem wrL_mem {l : List Rw} (hu : RowsUp l) (t r v : Int) (y : Rw) : y ∈ wrL l t r v ↔ y = ⟨t, r, v⟩ ∨ (y ∈ l ∧ ¬ (y.t = t ∧ y.r = r)) := by
  have h := (rowsL_spec (l ++ [⟨t, r, v⟩]) (l ++ [(⟨t, r, v⟩ : Rw)]).length).2 y.t y.r y.v
  have e : y ∈ wrL l t r v ↔ ∃ i, i < (wrL l t r v).length ∧ (rAt (wrL l t r v) i).t = y.t ∧ (rAt (wrL l t r v) i).r = y.r ∧ (rAt (wrL l t r v) i).v = y.v := by
    rw [mem_rAtU]
    constructor
    · rintro ⟨i, hi, e⟩; exact ⟨i, hi, by rw [e], by rw [e], by rw [e]⟩
    · rintro ⟨i, hi, e1, e2, e3⟩
      refine ⟨i, hi, ?_⟩
      generalize rAt (wrL l t r v) i = z at *
      cases z; cases y; simp_all
  rw [e]
  refine Iff.trans h ?_
  rw [lv_snoc]
  by_cases hk : y.t = t ∧ y.r = r
  · rw [if_pos hk]
    constructor
    · intro h'
      injection h' with h'
      left
      cases y; simp_all
    · rintro (h' | h')
      · rw [h']
      · exact absurd hk h'.2
  · rw [if_neg hk, lv_up hu]
    constructor
    · intro h'; exact .inr ⟨h', hk⟩
    · rintro (h' | h')
      · exact absurd ⟨by rw [h'], by rw [h']⟩ hk
      · exact h'.1
theorem wr_at {l : List Rw} (hu : RowsUp l) {t r : Int} (v : Int) {i : Nat} (h : AtK l t r i) : l.set i ⟨t, r, v⟩ = wrL l t r v := by
  obtain ⟨hi, rfl, rfl⟩ := h
  refine asc_oneU (lt := KLr) klr_irr ?_ (wrL_pw _ _ _ _) fun y => ?_
  · have h1 := rowsUp_pw hu
    rw [List.pairwise_iff_getElem] at h1 ⊢
    intro a b ha hb hab
    rw [List.length_set] at ha hb
    have h2 := h1 a b ha hb hab
    have key : ∀ q (hq : q < l.length), ((l.set i ⟨(rAt l i).t, (rAt l i).r, v⟩)[q]'(by simpa using hq)).t = (l[q]).t ∧ ((l.set i ⟨(rAt l i).t, (rAt l i).r, v⟩)[q]'(by simpa using hq)).r = (l[q]).r := fun q hq => by
      rw [List.getElem_set]
      by_cases e : i = q
      · subst e; simp [rAt, hi]
      · simp [e]
    unfold KLr at h2 ⊢
    rw [(key a ha).1, (key a ha).2, (key b hb).1, (key b hb).2]
    exact h2
  · rw [wrL_mem hu, mem_rAtU, mem_rAtU]
    have hget : ∀ q, q < l.length → rAt (l.set i ⟨(rAt l i).t, (rAt l i).r, v⟩) q = if q = i then ⟨(rAt l i).t, (rAt l i).r, v⟩ else rAt l q := fun q hq => by
      simp only [rAt, List.getD_eq_getElem?_getD, List.getElem?_set]
      by_cases e : i = q
      · subst e; simp [hi]
      · rw [if_neg e, if_neg (fun h => e h.symm)]
    constructor
    · rintro ⟨q, hq, e⟩
      rw [List.length_set] at hq
      rw [hget q hq] at e
      by_cases e' : q = i
      · rw [if_pos e'] at e; exact .inl e.symm
      · rw [if_neg e'] at e
        exact .inr ⟨⟨q, hq, e⟩, fun hk => e' (up_key hu hq hi (by rw [e]; exact hk.1) (by rw [e]; exact hk.2))⟩
    · rintro (e | ⟨⟨q, hq, e⟩, hk⟩)
      · exact ⟨i, by simpa using hi, by rw [hget i hi, if_pos rfl, e]⟩
      · have e' : q ≠ i := fun e' => hk (by rw [← e, e']; exact ⟨rfl, rfl⟩)
        exact ⟨q, by simpa using hq, by rw [hget q hq, if_neg e', e]⟩
theorem wr_no {l : List Rw} (hu : RowsUp l) {t r : Int} (v : Int) {i : Nat} (h : LowK l t r i) (hno : ∀ j, ¬ AtK l t r j) : l.take i ++ ⟨t, r, v⟩ :: l.drop i = wrL l t r v := by
  obtain ⟨hi, h1, h2⟩ := h
  have hne : ∀ y ∈ l, ¬ (y.t = t ∧ y.r = r) := fun y hy hk => by
    obtain ⟨q, hq, e⟩ := mem_rAtU.1 hy
    exact hno q ⟨hq, by rw [e]; exact hk.1, by rw [e]; exact hk.2⟩
  have hpw := rowsUp_pw hu
  refine asc_oneU (lt := KLr) klr_irr ?_ (wrL_pw _ _ _ _) fun y => ?_
  · have hall : (l.take i ++ l.drop i).Pairwise KLr := by rw [List.take_append_drop]; exact hpw
    obtain ⟨p1, p2, p3⟩ := List.pairwise_append.1 hall
    have hlow : ∀ y ∈ l.take i, KLr y ⟨t, r, v⟩ := fun y hy => by
      obtain ⟨q, hq, e⟩ := List.getElem_of_mem hy
      rw [List.length_take] at hq
      have := h1 q (by omega)
      have e2 : rAt l q = y := by rw [← e]; simp [rAt, show q < l.length by omega]
      rw [e2] at this
      exact this
    have hhigh : ∀ y ∈ l.drop i, KLr ⟨t, r, v⟩ y := fun y hy => by
      obtain ⟨q, hq, e⟩ := List.getElem_of_mem hy
      rw [List.length_drop] at hq
      have h3 := h2 (i + q) (by omega) (by omega)
      have e2 : rAt l (i + q) = y := by rw [← e]; simp [rAt, show i + q < l.length by omega]
      rw [e2] at h3
      rcases klB_total (a := y.t) (b := y.r) (c := t) (d := r) (hne y (List.mem_of_mem_drop hy)) with h4 | h4
      · rw [h3] at h4; cases h4
      · exact h4
    refine List.pairwise_append.2 ⟨p1, List.pairwise_cons.2 ⟨hhigh, p2⟩, fun a ha b hb => ?_⟩
    rcases List.mem_cons.1 hb with e | hb
    · rw [e]; exact hlow a ha
    · exact p3 a ha b hb
  · rw [wrL_mem hu, List.mem_append, List.mem_cons]
    have hm : y ∈ l ↔ y ∈ l.take i ∨ y ∈ l.drop i := by rw [← List.mem_append, List.take_append_drop]
    constructor
    · rintro (h' | h' | h')
      · exact .inr ⟨hm.2 (.inl h'), hne y (hm.2 (.inl h'))⟩
      · exact .inl h'
      · exact .inr ⟨hm.2 (.inr h'), hne y (hm.2 (.inr h'))⟩
    · rintro (h' | ⟨h', _⟩)
      · exact .inr (.inl h')
      · rcases hm.1 h' with h' | h'
        · exact .inl h'
        · exact .inr (.inr h')
end Go.Proofs.YtmecbppblbmchaaGreatDoor
