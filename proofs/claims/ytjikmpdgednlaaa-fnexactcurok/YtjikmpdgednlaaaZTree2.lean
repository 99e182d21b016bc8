/- What the program's test for a tree set comes to. -/
import Derived.Test.YtjikmpdgednlaaaZTree
import Derived.Test.YtjikmpdgednlaaaYKids2
namespace Go.Proofs.Ytjikmpdgednlaaa
set_option linter.unusedVariables false

theorem hasF_iff {l : List Nd} {kids R : List Int} : hasF l kids R = true ↔ kids.length = R.length ∧ ∀ j, j < R.length → roleK l kids j = iAt R j := by
  constructor
  · intro h
    by_cases hl : kids.length = R.length
    · refine ⟨hl, fun j hj => ?_⟩
      by_cases he : roleK l kids j = iAt R j
      · exact he
      · rw [hasF_bad hj he] at h; cases h
    · rw [hasF_len hl] at h; cases h
  · rintro ⟨h1, h2⟩
    exact hasF_good h1 h2

theorem role_sort {k : Int} (h : 0 ≤ (manyI k).1) : roleI k = sortI k + 1 := by
  unfold manyI at h
  unfold roleI sortI
  split at h
  · split <;> (try split) <;> (try split) <;> omega
  · split at h
    · split <;> (try split) <;> (try split) <;> omega
    · split at h
      · split <;> (try split) <;> (try split) <;> omega
      · split at h
        · split <;> (try split) <;> (try split) <;> omega
        · split at h
          · split <;> (try split) <;> (try split) <;> omega
          · simp at h

theorem kidsOkF_valid {l : List Nd} {k : Int} {kids : List Int} (h : kidsOkF l k kids = true) : 0 ≤ (manyI k).1 := by
  unfold kidsOkF at h
  unfold manyI
  split at h
  · rename_i c; rw [if_pos c]; decide
  · rename_i c0
    rw [if_neg c0]
    split at h
    · rename_i c; rw [if_pos (by omega)]; decide
    · rename_i c1
      split at h
      · rename_i c; rw [if_neg (by omega), if_neg (by omega), if_neg (by omega), if_pos c]; decide
      · rename_i c2
        split at h
        · rename_i c; rw [if_neg (by omega), if_pos c]; decide
        · rename_i c3
          split at h
          · rename_i c; rw [if_pos (by omega)]; decide
          · rename_i c4
            split at h
            · rename_i c; rw [if_neg (by omega), if_neg (by omega), if_pos c]; decide
            · cases h

/-- The sort of kid j. -/
def sortJ (l : List Nd) (kids : List Int) (j : Nat) : Int := sortI (ndAt l (iAt kids j).toNat).k

theorem kidsOkF_iff {l : List Nd} {k : Int} {kids : List Int} (hv : ∀ j, j < kids.length → roleK l kids j = sortJ l kids j + 1) (hn : kids.length ≤ 4000) :
    kidsOkF l k kids = true ↔ 0 ≤ (manyI k).1 ∧ (manyI k).1 ≤ (kids.length : Int) ∧ (kids.length : Int) ≤ (manyI k).2 ∧ ∀ j, j < kids.length → sortJ l kids j = kidI k j := by
  unfold kidsOkF
  by_cases c0 : k = 0 ∨ k = 1 ∨ k = 25
  · have hm : manyI k = (0, 0) := by rw [manyI, if_pos c0]
    rw [if_pos c0, hasF_iff, hm]
    constructor
    · rintro ⟨h1, h2⟩
      have : kids.length = 0 := h1
      exact ⟨Int.le_refl _, by omega, by show _ ≤ (0 : Int); omega, fun j hj => by omega⟩
    · rintro ⟨_, _, h3, _⟩
      have h3' : (kids.length : Int) ≤ 0 := h3
      exact ⟨by show kids.length = 0; omega, fun j hj => absurd hj (Nat.not_lt_zero _)⟩
  by_cases c1 : k = 2 ∨ k = 20 ∨ k = 21 ∨ k = 26
  · have hm : manyI k = (1, 1) := by rw [manyI, if_neg c0, if_pos (by omega)]
    have hk : ∀ j, kidI k j = 0 := fun j => by rw [kidI, if_neg (by omega), if_neg (by omega), if_neg (by omega)]
    rw [if_neg c0, if_pos c1, hasF_iff, hm]
    constructor
    · rintro ⟨h1, h2⟩
      have h1' : kids.length = 1 := h1
      refine ⟨by decide, by show (1 : Int) ≤ _; omega, by show _ ≤ (1 : Int); omega, fun j hj => ?_⟩
      have e : j = 0 := by omega
      subst e
      have a := h2 0 (by show 0 < 1; omega)
      have b := hv 0 hj
      have c : iAt [1] 0 = 1 := rfl
      rw [hk]; omega
    · rintro ⟨_, h2, h3, h4⟩
      have h2' : (1 : Int) ≤ (kids.length : Int) := h2
      have h3' : (kids.length : Int) ≤ 1 := h3
      refine ⟨by show kids.length = 1; omega, fun j hj => ?_⟩
      have e : j = 0 := by have : j < 1 := hj; omega
      subst e
      have a := h4 0 (by omega)
      have b := hv 0 (by omega)
      have c : iAt [1] 0 = 1 := rfl
      rw [hk] at a; omega
  by_cases c2 : (3 ≤ k ∧ k ≤ 9) ∨ k = 22
  · have hm : manyI k = (2, 2) := by rw [manyI, if_neg c0, if_neg (by omega), if_neg (by omega), if_neg (by omega), if_pos c2]
    have hk : ∀ j, kidI k j = 0 := fun j => by rw [kidI, if_neg (by omega), if_neg (by omega), if_neg (by omega)]
    have hc : ∀ j, j < 2 → iAt [1, 1] j = 1 := fun j hj => by
      have : j = 0 ∨ j = 1 := by omega
      rcases this with rfl | rfl <;> rfl
    rw [if_neg c0, if_neg c1, if_pos c2, hasF_iff, hm]
    constructor
    · rintro ⟨h1, h2⟩
      have h1' : kids.length = 2 := h1
      refine ⟨by decide, by show (2 : Int) ≤ _; omega, by show _ ≤ (2 : Int); omega, fun j hj => ?_⟩
      have a := h2 j (by show j < 2; omega)
      have b := hv j hj
      have c := hc j (by omega)
      rw [hk]; omega
    · rintro ⟨_, h2, h3, h4⟩
      have h2' : (2 : Int) ≤ (kids.length : Int) := h2
      have h3' : (kids.length : Int) ≤ 2 := h3
      refine ⟨by show kids.length = 2; omega, fun j hj => ?_⟩
      have hj' : j < 2 := hj
      have a := h4 j (by omega)
      have b := hv j (by omega)
      have c := hc j hj'
      rw [hk] at a; omega
  by_cases c3 : k = 23
  · have hm : manyI k = (2, 3) := by rw [manyI, if_neg c0, if_neg (by omega), if_pos c3]
    have hk : ∀ j, kidI k j = if 0 < j then 2 else 0 := fun j => by
      rw [kidI, if_neg (by omega), if_neg (by omega)]
      by_cases hj : 0 < j
      · rw [if_pos ⟨c3, hj⟩, if_pos hj]
      · rw [if_neg (fun h => hj h.2), if_neg hj]
    have hc2 : ∀ j, j < 2 → iAt [1, 3] j = (if 0 < j then 2 else 0) + 1 := fun j hj => by
      have : j = 0 ∨ j = 1 := by omega
      rcases this with rfl | rfl <;> rfl
    have hc3 : ∀ j, j < 3 → iAt [1, 3, 3] j = (if 0 < j then 2 else 0) + 1 := fun j hj => by
      have : j = 0 ∨ j = 1 ∨ j = 2 := by omega
      rcases this with rfl | rfl | rfl <;> rfl
    rw [if_neg c0, if_neg c1, if_neg c2, if_pos c3, Bool.or_eq_true, hasF_iff, hasF_iff, hm]
    constructor
    · intro h
      rcases h with ⟨h1, h2⟩ | ⟨h1, h2⟩
      · have h1' : kids.length = 2 := h1
        refine ⟨by decide, by show (2 : Int) ≤ _; omega, by show _ ≤ (3 : Int); omega, fun j hj => ?_⟩
        have a := h2 j (by show j < 2; omega)
        have b := hv j hj
        have c := hc2 j (by omega)
        rw [hk]; omega
      · have h1' : kids.length = 3 := h1
        refine ⟨by decide, by show (2 : Int) ≤ _; omega, by show _ ≤ (3 : Int); omega, fun j hj => ?_⟩
        have a := h2 j (by show j < 3; omega)
        have b := hv j hj
        have c := hc3 j (by omega)
        rw [hk]; omega
    · rintro ⟨_, h2, h3, h4⟩
      have h2' : (2 : Int) ≤ (kids.length : Int) := h2
      have h3' : (kids.length : Int) ≤ 3 := h3
      by_cases e : kids.length = 2
      · refine .inl ⟨e, fun j hj => ?_⟩
        have hj' : j < 2 := hj
        have a := h4 j (by omega)
        have b := hv j (by omega)
        have c := hc2 j hj'
        rw [hk] at a; omega
      · refine .inr ⟨by show kids.length = 3; omega, fun j hj => ?_⟩
        have hj' : j < 3 := hj
        have a := h4 j (by omega)
        have b := hv j (by omega)
        have c := hc3 j hj'
        rw [hk] at a; omega
  by_cases c4 : k = 24
  · have hm : manyI k = (1, 1) := by rw [manyI, if_neg c0, if_pos (by omega)]
    have hk : ∀ j, kidI k j = 2 := fun j => by rw [kidI, if_neg (by omega), if_pos c4]
    rw [if_neg c0, if_neg c1, if_neg c2, if_neg c3, if_pos c4, hasF_iff, hm]
    constructor
    · rintro ⟨h1, h2⟩
      have h1' : kids.length = 1 := h1
      refine ⟨by decide, by show (1 : Int) ≤ _; omega, by show _ ≤ (1 : Int); omega, fun j hj => ?_⟩
      have e : j = 0 := by omega
      subst e
      have a := h2 0 (by show 0 < 1; omega)
      have b := hv 0 hj
      have c : iAt [3] 0 = 3 := rfl
      rw [hk]; omega
    · rintro ⟨_, h2, h3, h4⟩
      have h2' : (1 : Int) ≤ (kids.length : Int) := h2
      have h3' : (kids.length : Int) ≤ 1 := h3
      refine ⟨by show kids.length = 1; omega, fun j hj => ?_⟩
      have e : j = 0 := by have : j < 1 := hj; omega
      subst e
      have a := h4 0 (by omega)
      have b := hv 0 (by omega)
      have c : iAt [3] 0 = 3 := rfl
      rw [hk] at a; omega
  by_cases c5 : k = 27
  · have hm : manyI k = (0, 4000) := by rw [manyI, if_neg c0, if_neg (by omega), if_neg c3, if_pos c5]
    have hk : ∀ j, kidI k j = 1 := fun j => by rw [kidI, if_pos c5]
    have hc : ∀ j, j < kids.length → iAt (List.replicate kids.length 2) j = 2 := fun j hj => by simp [iAt, hj]
    rw [if_neg c0, if_neg c1, if_neg c2, if_neg c3, if_neg c4, if_pos c5, hasF_iff, hm, List.length_replicate]
    constructor
    · rintro ⟨_, h2⟩
      refine ⟨by decide, by show (0 : Int) ≤ _; omega, by show _ ≤ (4000 : Int); omega, fun j hj => ?_⟩
      have a := h2 j hj
      have b := hv j hj
      have c := hc j hj
      rw [hk]; omega
    · rintro ⟨_, _, _, h4⟩
      refine ⟨rfl, fun j hj => ?_⟩
      have a := h4 j hj
      have b := hv j hj
      have c := hc j hj
      rw [hk] at a; omega
  · have hm : manyI k = (-1, -1) := by rw [manyI, if_neg c0, if_neg (by omega), if_neg c3, if_neg c5, if_neg (by omega)]
    rw [if_neg c0, if_neg c1, if_neg c2, if_neg c3, if_neg c4, if_neg c5, hm]
    constructor
    · intro h; cases h
    · rintro ⟨h, _⟩
      exact absurd h (by decide)

/-- What differs and lies below m is no more than m. -/
theorem few : ∀ (m : Nat) (l : List Int), l.Nodup → (∀ x, x ∈ l → 0 ≤ x ∧ x < (m : Int)) → l.length ≤ m
  | 0, l, _, h => by
    cases l with
    | nil => exact Nat.le_refl _
    | cons x r => have := h x (List.mem_cons_self ..); omega
  | m + 1, l, hn, h => by
    by_cases hx : (m : Int) ∈ l
    · have h1 : (l.erase (m : Int)).length ≤ m := few m _ (hn.erase _) fun x hm => by
        have h2 := (List.Nodup.mem_erase_iff hn).1 hm
        have h3 := h x h2.2
        have h4 := h2.1
        omega
      have h2 := List.length_erase_of_mem hx
      omega
    · have := few m l hn fun x hm => by
        have h3 := h x hm
        have : x ≠ (m : Int) := fun e => hx (e ▸ hm)
        omega
      omega

theorem OwnP1.kidsNodup {l : List Nd} {p : List Pr} (h : OwnP1 l p) {m : Nat} (hm : m < l.length) : (ndAt l m).kids.Nodup := by
  have h1 := (List.nodup_append.1 h.once).1
  have h2 : ∀ n i, i ≤ m → m < i + n → (kidsAll l i n).Nodup → (ndAt l m).kids.Nodup := fun n => by
    induction n with
    | zero => intro i h1 h2; omega
    | succ n ih =>
      intro i hi1 hi2 hn
      rw [kidsAll_succ] at hn
      by_cases e : m = i
      · subst e; exact (List.nodup_append.1 hn).1
      · exact ih (i + 1) (by omega) (by omega) (List.nodup_append.1 hn).2.1
  exact h2 l.length 0 (Nat.zero_le _) (by omega) h1
theorem OwnP1.kidsLen {l : List Nd} {p : List Pr} (h : OwnP1 l p) {m : Nat} (hm : m < l.length) : (ndAt l m).kids.length ≤ m := few m _ (h.kidsNodup hm) (h.kids m hm)

/-- Are all nodes' kids as they should be? -/
def kidsAllF (l : List Nd) : Bool := (List.range l.length).all fun k => kidsOkF l (ndAt l k).k (ndAt l k).kids
def bodiesF (l : List Nd) (p : List Pr) : Bool := p.all fun x => decide ((ndAt l x.body.toNat).k = 27)
def treeI (l : List Nd) (p : List Pr) : Bool := decide (l.length ≤ 4000) && (decide (p.length ≤ 800) && (ownF l p && (kidsAllF l && (bodiesF l p && fitF l p))))

theorem kidsAllF_iff {l : List Nd} {p : List Pr} (h : OwnP1 l p) (hn : l.length ≤ 4000) : kidsAllF l = true ↔ ∀ m, m < l.length → NodeOk l m := by
  have toNat : ∀ m, m < l.length → ∀ j, j < (ndAt l m).kids.length → (iAt (ndAt l m).kids j).toNat < l.length := fun m hm j hj => by
    have := h.kids m hm _ (iAt_mem hj)
    omega
  rw [kidsAllF, List.all_eq_true]
  constructor
  · intro ha m hm
    have hv : ∀ j, j < (ndAt l m).kids.length → roleK l (ndAt l m).kids j = sortJ l (ndAt l m).kids j + 1 := fun j hj => role_sort (kidsOkF_valid (ha _ (List.mem_range.2 (toNat m hm j hj))))
    obtain ⟨a, b, c, d⟩ := (kidsOkF_iff hv (by have := h.kidsLen hm; omega)).1 (ha m (List.mem_range.2 hm))
    exact ⟨a, b, c, fun j hj => ⟨(h.kids m hm _ (iAt_mem hj)).1, (h.kids m hm _ (iAt_mem hj)).2, d j hj⟩⟩
  · intro ha m hm
    rw [List.mem_range] at hm
    have hv : ∀ j, j < (ndAt l m).kids.length → roleK l (ndAt l m).kids j = sortJ l (ndAt l m).kids j + 1 := fun j hj => role_sort (ha _ (toNat m hm j hj)).least
    have hN := ha m hm
    exact (kidsOkF_iff hv (by have := h.kidsLen hm; omega)).2 ⟨hN.least, hN.lo, hN.hi, fun j hj => (hN.kids j hj).2.2⟩

theorem bodiesF_iff {l : List Nd} {p : List Pr} : bodiesF l p = true ↔ ∀ x, x ∈ p → (ndAt l x.body.toNat).k = 27 := by
  rw [bodiesF, List.all_eq_true]
  constructor
  · intro h x hx; exact of_decide_eq_true (h x hx)
  · intro h x hx; exact decide_eq_true (h x hx)

theorem treeI_iff {l : List Nd} {p : List Pr} : treeI l p = true ↔ TreeQ l p := by
  rw [treeI, Bool.and_eq_true, Bool.and_eq_true, Bool.and_eq_true, Bool.and_eq_true, Bool.and_eq_true, decide_eq_true_eq, decide_eq_true_eq, ownF_iff, bodiesF_iff, fitF, decide_eq_true_eq]
  constructor
  · rintro ⟨h1, h2, h3, h4, h5, h6⟩
    exact ⟨h1, h2, (kidsAllF_iff h3 h1).1 h4, fun x hx => ⟨(h3.body x hx).1, (h3.body x hx).2, h5 x hx⟩, h3.once, h3.all, h6⟩
  · intro h
    have h3 : OwnP1 l p := ⟨fun m hm x hx => by
      obtain ⟨j, hj, rfl⟩ := mem_iAt hx
      have := (h.node m hm).kids j hj
      exact ⟨this.1, this.2.1⟩, fun x hx => ⟨(h.body x hx).1, (h.body x hx).2.1⟩, h.once, h.all⟩
    exact ⟨h.nodes, h.procs, h3, (kidsAllF_iff h3 h.nodes).2 h.node, fun x hx => (h.body x hx).2.2, h.fit⟩

end Go.Proofs.Ytjikmpdgednlaaa
