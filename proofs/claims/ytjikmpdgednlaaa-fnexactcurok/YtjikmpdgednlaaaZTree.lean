/- Tree sets: what both tests for them come to. -/
import Derived.Test.YtjikmpdgednlaaaXTreeP
import Derived.Test.YtjikmpdgednlaaaYOwned
import Derived.Test.YtjikmpdgednlaaaYFit
namespace Go.Proofs.Ytjikmpdgednlaaa
set_option linter.unusedVariables false

theorem iAt_mem {l : List Int} {j : Nat} (hj : j < l.length) : iAt l j ∈ l := by
  have e : iAt l j = l[j] := by simp [iAt, hj]
  rw [e]
  exact List.getElem_mem hj
theorem mem_iAt {l : List Int} {x : Int} (hx : x ∈ l) : ∃ j, j < l.length ∧ iAt l j = x := by
  obtain ⟨j, hj, e⟩ := List.mem_iff_getElem.1 hx
  exact ⟨j, hj, by simp [iAt, hj, e]⟩

theorem kidsF_iff {l : List Nd} {i : Nat} {k : Int} : ∀ (kids : List Int) (j : Nat) (used used' : List Int), used.Nodup →
    (kidsF l i k j kids used = some used' ↔ used' = used ++ kids ∧ (used ++ kids).Nodup ∧ ∀ m, m < kids.length → 0 ≤ iAt kids m ∧ iAt kids m < (i : Int) ∧ sortI (ndAt l (iAt kids m).toNat).k = kidI k (j + m))
  | [], j, used, used', hu => by
    rw [kidsF]
    constructor
    · intro h
      injection h with h
      exact ⟨by simp [h], by simpa using hu, fun m hm => absurd hm (Nat.not_lt_zero _)⟩
    · rintro ⟨h, _, _⟩
      rw [h, List.append_nil]
  | x :: r, j, used, used', hu => by
    rw [kidsF]
    split
    · rename_i hc
      constructor
      · intro h; cases h
      · rintro ⟨_, h2, h3⟩
        have h0 := h3 0 (by simp)
        have e : iAt (x :: r) 0 = x := rfl
        rw [e] at h0
        exfalso
        rcases hc with hc | hc | hc | hc
        · omega
        · omega
        · have hm := List.count_pos_iff.1 hc
          rw [List.nodup_append] at h2
          exact h2.2.2 x hm x (List.mem_cons_self ..) rfl
        · exact hc h0.2.2
    · rename_i hc
      have hx : ¬ x ∈ used := fun hm => hc (.inr (.inr (.inl (List.count_pos_iff.2 hm))))
      have hu2 : (used ++ [x]).Nodup := by
        rw [List.nodup_append]
        exact ⟨hu, by simp, fun a ha b hb => by rw [List.mem_singleton] at hb; subst hb; intro e; subst e; exact hx ha⟩
      rw [kidsF_iff r (j + 1) (used ++ [x]) used' hu2]
      have e1 : used ++ [x] ++ r = used ++ x :: r := by simp
      rw [e1]
      constructor
      · rintro ⟨h1, h2, h3⟩
        refine ⟨h1, h2, fun m hm => ?_⟩
        cases m with
        | zero =>
          have e : iAt (x :: r) 0 = x := rfl
          rw [e]
          refine ⟨by omega, by omega, ?_⟩
          by_cases hs : sortI (ndAt l x.toNat).k = kidI k j
          · exact hs
          · exact absurd (.inr (.inr (.inr hs))) hc
        | succ m =>
          have e : iAt (x :: r) (m + 1) = iAt r m := by simp [iAt]
          rw [e]
          have := h3 m (by simpa using hm)
          rw [show j + (m + 1) = j + 1 + m by omega]
          exact this
      · rintro ⟨h1, h2, h3⟩
        refine ⟨h1, h2, fun m hm => ?_⟩
        have := h3 (m + 1) (by simpa using hm)
        have e : iAt (x :: r) (m + 1) = iAt r m := by simp [iAt]
        rw [e, show j + (m + 1) = j + 1 + m by omega] at this
        exact this

def szN (l : List Nd) (i n : Nat) : Nat := ((List.range' i n).map fun m => (ndAt l m).s.size).sum
theorem szN_succ (l : List Nd) (i n : Nat) : szN l i (n + 1) = (ndAt l i).s.size + szN l (i + 1) n := by simp [szN, List.range'_succ]
theorem kidsAll_succ (l : List Nd) (i n : Nat) : kidsAll l i (n + 1) = (ndAt l i).kids ++ kidsAll l (i + 1) n := by simp [kidsAll, List.range'_succ]

theorem nodesF_iff {l : List Nd} : ∀ (n i : Nat) (used : List Int) (left : Int) (used' : List Int) (left' : Int), used.Nodup → 0 ≤ left →
    (nodesF l n i used left = some (used', left') ↔ used' = used ++ kidsAll l i n ∧ (used ++ kidsAll l i n).Nodup ∧ (∀ m, i ≤ m → m < i + n → NodeOk l m) ∧ left' = left - (szN l i n : Int) ∧ 0 ≤ left')
  | 0, i, used, left, used', left', hu, hl => by
    rw [nodesF]
    constructor
    · intro h
      injection h with h
      injection h with h1 h2
      exact ⟨by simp [kidsAll, h1], by simpa [kidsAll] using hu, fun m h1 h2 => by omega, by simp [szN, h2], by omega⟩
    · rintro ⟨h1, _, _, h4, _⟩
      simp [kidsAll, szN] at h1 h4
      rw [h1, h4]
  | n + 1, i, used, left, used', left', hu, hl => by
    rw [nodesF, kidsAll_succ, szN_succ]
    split
    · rename_i hc
      constructor
      · intro h; cases h
      · rintro ⟨_, _, h3, h4, h5⟩
        have := h3 i (Nat.le_refl _) (by omega)
        have a := this.least; have b := this.lo; have c := this.hi
        exfalso
        omega
    · rename_i hc
      cases hk : kidsF l i (ndAt l i).k 0 (ndAt l i).kids used with
      | none =>
        rw [Option.bind_none]
        constructor
        · intro h; cases h
        · rintro ⟨_, h2, h3, _, _⟩
          have hN := h3 i (Nat.le_refl _) (by omega)
          have hu2 : (used ++ (ndAt l i).kids).Nodup := by
            rw [← List.append_assoc] at h2
            exact (List.nodup_append.1 h2).1
          have := (kidsF_iff (l := l) (i := i) (k := (ndAt l i).k) (ndAt l i).kids 0 used (used ++ (ndAt l i).kids) hu).2 ⟨rfl, hu2, fun m hm => by rw [Nat.zero_add]; exact hN.kids m hm⟩
          rw [hk] at this
          cases this
      | some u =>
        rw [Option.bind_some]
        obtain ⟨k1, k2, k3⟩ := (kidsF_iff _ _ _ _ hu).1 hk
        have hl2 : 0 ≤ left - ((ndAt l i).s.size : Int) := by omega
        rw [nodesF_iff n (i + 1) u _ used' left' (k1 ▸ k2) hl2, k1, List.append_assoc]
        constructor
        · rintro ⟨h1, h2, h3, h4, h5⟩
          refine ⟨h1, h2, fun m hm1 hm2 => ?_, by omega, h5⟩
          by_cases e : m = i
          · subst e
            exact ⟨by omega, by omega, by omega, fun j hj => by have := k3 j hj; rw [Nat.zero_add] at this; exact this⟩
          · exact h3 m (by omega) (by omega)
        · rintro ⟨h1, h2, h3, h4, h5⟩
          exact ⟨h1, h2, fun m hm1 hm2 => h3 m (by omega) (by omega), by omega, h5⟩

theorem paramsF_iff : ∀ (ps : List ByteArray) (left left' : Int), 0 ≤ left → (paramsF ps left = some left' ↔ left' = left - (sumT ps : Int) ∧ 0 ≤ left')
  | [], left, left', hl => by
    rw [paramsF]
    constructor
    · intro h
      injection h with h
      exact ⟨by simp [sumT, h], by omega⟩
    · rintro ⟨h, _⟩
      simp [sumT] at h
      rw [h]
  | x :: r, left, left', hl => by
    rw [paramsF]
    have e : sumT (x :: r) = x.size + sumT r := by simp [sumT]
    rw [e]
    split
    · rename_i hc
      constructor
      · intro h; cases h
      · rintro ⟨h1, h2⟩
        exfalso
        omega
    · rename_i hc
      rw [paramsF_iff r _ left' (by omega)]
      constructor
      · rintro ⟨h1, h2⟩; exact ⟨by omega, h2⟩
      · rintro ⟨h1, h2⟩; exact ⟨by omega, h2⟩

theorem procsF_iff {l : List Nd} : ∀ (p : List Pr) (used : List Int) (left : Int) (used' : List Int), used.Nodup → 0 ≤ left →
    (procsF l p used left = some used' ↔ used' = used ++ p.map (·.body) ∧ (used ++ p.map (·.body)).Nodup ∧ (∀ x, x ∈ p → 0 ≤ x.body ∧ x.body < (l.length : Int) ∧ (ndAt l x.body.toNat).k = 27 ∧ x.ps.length ≤ 800) ∧ (sumP p : Int) ≤ left)
  | [], used, left, used', hu, hl => by
    rw [procsF]
    constructor
    · intro h
      injection h with h
      exact ⟨by simp [h], by simpa using hu, fun x hx => absurd hx (by simp), by simp [sumP]; omega⟩
    · rintro ⟨h, _⟩
      simp at h
      rw [h]
  | x :: r, used, left, used', hu, hl => by
    rw [procsF]
    have e : sumP (x :: r) = x.name.size + sumT x.ps + sumP r := by simp [sumP]
    have e1 : used ++ (x :: r).map (·.body) = used ++ [x.body] ++ r.map (·.body) := by simp
    rw [e, e1]
    split
    · rename_i hc
      constructor
      · intro h; cases h
      · rintro ⟨_, h2, h3, h4⟩
        obtain ⟨a, b, c, d⟩ := h3 x (List.mem_cons_self ..)
        exfalso
        rcases hc with hc | hc | hc | hc | hc | hc
        · omega
        · omega
        · have hm := List.count_pos_iff.1 hc
          have h5 := (List.nodup_append.1 h2).1
          rw [List.nodup_append] at h5
          exact h5.2.2 x.body hm x.body (List.mem_singleton.2 rfl) rfl
        · exact hc c
        · omega
        · omega
    · rename_i hc
      have hx : ¬ x.body ∈ used := fun hm => hc (.inr (.inr (.inl (List.count_pos_iff.2 hm))))
      have hu2 : (used ++ [x.body]).Nodup := by
        rw [List.nodup_append]
        exact ⟨hu, by simp, fun a ha b hb => by rw [List.mem_singleton] at hb; subst hb; intro e; subst e; exact hx ha⟩
      have hl2 : 0 ≤ left - (x.name.size : Int) := by omega
      have hb : (ndAt l x.body.toNat).k = 27 := by
        by_cases hs : (ndAt l x.body.toNat).k = 27
        · exact hs
        · exact absurd (.inr (.inr (.inr (.inl hs)))) hc
      cases hk : paramsF x.ps (left - (x.name.size : Int)) with
      | none =>
        rw [Option.bind_none]
        constructor
        · intro h; cases h
        · rintro ⟨_, _, _, h4⟩
          have := (paramsF_iff x.ps (left - (x.name.size : Int)) (left - (x.name.size : Int) - (sumT x.ps : Int)) hl2).2 ⟨rfl, by omega⟩
          rw [hk] at this
          cases this
      | some u =>
        rw [Option.bind_some]
        obtain ⟨k1, k2⟩ := (paramsF_iff _ _ _ hl2).1 hk
        rw [procsF_iff r (used ++ [x.body]) u used' hu2 k2]
        constructor
        · rintro ⟨h1, h2, h3, h4⟩
          refine ⟨h1, h2, fun y hy => ?_, by omega⟩
          rcases List.mem_cons.1 hy with rfl | hy
          · exact ⟨by omega, by omega, hb, by omega⟩
          · exact h3 y hy
        · rintro ⟨h1, h2, h3, h4⟩
          exact ⟨h1, h2, fun y hy => h3 y (List.mem_cons_of_mem _ hy), by omega⟩

/-- A tree set, but for how many Params there may be. -/
structure TreeQ (l : List Nd) (p : List Pr) : Prop where
  nodes : l.length ≤ 4000
  procs : p.length ≤ 800
  node : ∀ m, m < l.length → NodeOk l m
  body : ∀ x, x ∈ p → 0 ≤ x.body ∧ x.body < (l.length : Int) ∧ (ndAt l x.body.toNat).k = 27
  once : (kidsAll l 0 l.length ++ p.map (·.body)).Nodup
  all : ∀ m : Nat, m < l.length → (m : Int) ∈ kidsAll l 0 l.length ++ p.map (·.body)
  fit : sumS l + sumP p ≤ 24000

theorem szN_all (l : List Nd) : szN l 0 l.length = sumS l := by
  have : ∀ n, n ≤ l.length → szN l 0 n = sumS (l.take n) := fun n => by
    induction n with
    | zero => intro _; simp [szN, sumS]
    | succ n ih =>
      intro hn
      have e : szN l 0 (n + 1) = szN l 0 n + (ndAt l n).s.size := by simp [szN, List.range'_concat]
      rw [e, ih (by omega), sumS_take (by omega)]
  have := this l.length (Nat.le_refl _)
  rwa [List.take_length] at this

theorem treeF_iff {l : List Nd} {p : List Pr} : treeF l p = true ↔ TreeQ l p ∧ ∀ x, x ∈ p → x.ps.length ≤ 800 := by
  rw [treeF]
  split
  · rename_i hc
    constructor
    · intro h; cases h
    · rintro ⟨h, _⟩
      have a := h.nodes; have b := h.procs
      omega
  · rename_i hc
    constructor
    · intro h
      split at h
      · cases h
      · rename_i used he
        cases hn : nodesF l l.length 0 [] 24000 with
        | none => rw [hn] at he; cases he
        | some x =>
          obtain ⟨u, left⟩ := x
          rw [hn, Option.bind_some] at he
          obtain ⟨n1, n2, n3, n4, n5⟩ := (nodesF_iff _ _ _ _ _ _ List.nodup_nil (by omega)).1 hn
          rw [List.nil_append] at n1 n2
          obtain ⟨p1, p2, p3, p4⟩ := (procsF_iff _ _ _ _ (by show u.Nodup; rw [n1]; exact n2) n5).1 he
          change used = u ++ _ at p1
          change (u ++ _).Nodup at p2
          rw [n1] at p1 p2
          rw [szN_all] at n4
          refine ⟨⟨by omega, by omega, fun m hm => n3 m (Nat.zero_le _) (by omega), fun x hx => ⟨(p3 x hx).1, (p3 x hx).2.1, (p3 x hx).2.2.1⟩, p2, fun m hm => ?_, by omega⟩, fun x hx => (p3 x hx).2.2.2⟩
          rw [List.all_eq_true] at h
          have := of_decide_eq_true (h m (List.mem_range.2 hm))
          rw [p1] at this
          exact List.count_pos_iff.1 (by omega)
    · rintro ⟨h, hp⟩
      have hf := h.fit
      have h1 := (nodesF_iff (l := l) l.length 0 [] 24000 (kidsAll l 0 l.length) (24000 - (szN l 0 l.length : Int)) List.nodup_nil (by omega)).2 ⟨by simp, by simpa using (List.nodup_append.1 h.once).1, fun m _ hm => h.node m (by omega), rfl, by rw [szN_all]; omega⟩
      have h2 := (procsF_iff (l := l) p (kidsAll l 0 l.length) (24000 - (szN l 0 l.length : Int)) (kidsAll l 0 l.length ++ p.map (·.body)) (List.nodup_append.1 h.once).1 (by rw [szN_all]; omega)).2 ⟨rfl, h.once, fun x hx => ⟨(h.body x hx).1, (h.body x hx).2.1, (h.body x hx).2.2, hp x hx⟩, by rw [szN_all]; omega⟩
      rw [h1, Option.bind_some]
      show (match procsF l p (kidsAll l 0 l.length) (24000 - (szN l 0 l.length : Int)) with | none => false | some used => _) = true
      rw [h2]
      show List.all _ _ = true
      rw [List.all_eq_true]
      intro x hx
      rw [List.mem_range] at hx
      have hm := h.all x hx
      have := List.Nodup.count (a := (x : Int)) h.once
      rw [if_pos hm] at this
      simpa using this

theorem oKids_iff {i : Nat} : ∀ (kids L L' : List Int), L.Nodup → (oKids i kids L = some L' ↔ L' = L ++ kids ∧ (L ++ kids).Nodup ∧ ∀ x, x ∈ kids → 0 ≤ x ∧ x < (i : Int))
  | [], L, L', hL => by
    rw [oKids]
    constructor
    · intro h
      injection h with h
      exact ⟨by simp [h], by simpa using hL, fun x hx => absurd hx (by simp)⟩
    · rintro ⟨h, _⟩
      rw [h, List.append_nil]
  | x :: r, L, L', hL => by
    rw [oKids]
    have e1 : L ++ x :: r = L ++ [x] ++ r := by simp
    rw [e1]
    split
    · rename_i hc
      constructor
      · intro h; cases h
      · rintro ⟨_, h2, h3⟩
        have := h3 x (List.mem_cons_self ..)
        exfalso
        rcases hc with hc | hc | hc
        · omega
        · omega
        · have h5 := (List.nodup_append.1 h2).1
          rw [List.nodup_append] at h5
          exact h5.2.2 x hc x (List.mem_singleton.2 rfl) rfl
    · rename_i hc
      have hx : ¬ x ∈ L := fun hm => hc (.inr (.inr hm))
      have hu2 : (L ++ [x]).Nodup := by
        rw [List.nodup_append]
        exact ⟨hL, by simp, fun a ha b hb => by rw [List.mem_singleton] at hb; subst hb; intro e; subst e; exact hx ha⟩
      rw [oKids_iff r (L ++ [x]) L' hu2]
      constructor
      · rintro ⟨h1, h2, h3⟩
        refine ⟨h1, h2, fun y hy => ?_⟩
        rcases List.mem_cons.1 hy with rfl | hy
        · omega
        · exact h3 y hy
      · rintro ⟨h1, h2, h3⟩
        exact ⟨h1, h2, fun y hy => h3 y (List.mem_cons_of_mem _ hy)⟩

theorem oNodes_iff {l : List Nd} : ∀ (n i : Nat) (L L' : List Int), L.Nodup → (oNodes l n i L = some L' ↔ L' = L ++ kidsAll l i n ∧ (L ++ kidsAll l i n).Nodup ∧ ∀ m, i ≤ m → m < i + n → ∀ x, x ∈ (ndAt l m).kids → 0 ≤ x ∧ x < (m : Int))
  | 0, i, L, L', hL => by
    rw [oNodes]
    constructor
    · intro h
      injection h with h
      exact ⟨by simp [kidsAll, h], by simpa [kidsAll] using hL, fun m h1 h2 => by omega⟩
    · rintro ⟨h, _⟩
      simp [kidsAll] at h
      rw [h]
  | n + 1, i, L, L', hL => by
    rw [oNodes, kidsAll_succ, ← List.append_assoc]
    cases hk : oKids i (ndAt l i).kids L with
    | none =>
      rw [Option.bind_none]
      constructor
      · intro h; cases h
      · rintro ⟨_, h2, h3⟩
        have := (oKids_iff (i := i) (ndAt l i).kids L (L ++ (ndAt l i).kids) hL).2 ⟨rfl, (List.nodup_append.1 h2).1, h3 i (Nat.le_refl _) (by omega)⟩
        rw [hk] at this
        cases this
    | some u =>
      rw [Option.bind_some]
      obtain ⟨k1, k2, k3⟩ := (oKids_iff _ _ _ hL).1 hk
      rw [oNodes_iff n (i + 1) u L' (k1 ▸ k2), k1]
      constructor
      · rintro ⟨h1, h2, h3⟩
        refine ⟨h1, h2, fun m hm1 hm2 => ?_⟩
        by_cases e : m = i
        · subst e; exact k3
        · exact h3 m (by omega) (by omega)
      · rintro ⟨h1, h2, h3⟩
        exact ⟨h1, h2, fun m hm1 hm2 => h3 m (by omega) (by omega)⟩

/-- Each node has one owner, which stands behind it. -/
structure OwnP1 (l : List Nd) (p : List Pr) : Prop where
  kids : ∀ m, m < l.length → ∀ x, x ∈ (ndAt l m).kids → 0 ≤ x ∧ x < (m : Int)
  body : ∀ x, x ∈ p → 0 ≤ x.body ∧ x.body < (l.length : Int)
  once : (kidsAll l 0 l.length ++ p.map (·.body)).Nodup
  all : ∀ m : Nat, m < l.length → (m : Int) ∈ kidsAll l 0 l.length ++ p.map (·.body)

theorem ownF_iff {l : List Nd} {p : List Pr} : ownF l p = true ↔ OwnP1 l p := by
  rw [ownF]
  constructor
  · intro h
    split at h
    · cases h
    · rename_i L he
      cases hn : oNodes l l.length 0 [] with
      | none => rw [hn] at he; cases he
      | some u =>
        rw [hn, Option.bind_some] at he
        obtain ⟨n1, n2, n3⟩ := (oNodes_iff _ _ _ _ List.nodup_nil).1 hn
        rw [List.nil_append] at n1 n2
        obtain ⟨p1, p2, p3⟩ := (oKids_iff _ _ _ (n1 ▸ n2)).1 he
        rw [n1] at p1 p2
        refine ⟨fun m hm => n3 m (Nat.zero_le _) (by omega), fun x hx => p3 _ (List.mem_map_of_mem hx), p2, fun m hm => ?_⟩
        rw [List.all_eq_true] at h
        have := of_decide_eq_true (h m (List.mem_range.2 hm))
        rwa [p1] at this
  · intro h
    have h1 := (oNodes_iff (l := l) l.length 0 [] (kidsAll l 0 l.length) List.nodup_nil).2 ⟨by simp, by simpa using (List.nodup_append.1 h.once).1, fun m _ hm => h.kids m (by omega)⟩
    have h2 := (oKids_iff (i := l.length) (p.map (·.body)) (kidsAll l 0 l.length) (kidsAll l 0 l.length ++ p.map (·.body)) (List.nodup_append.1 h.once).1).2 ⟨rfl, h.once, fun x hx => by
      obtain ⟨y, hy, rfl⟩ := List.mem_map.1 hx
      exact h.body y hy⟩
    rw [h1, Option.bind_some, h2]
    show List.all _ _ = true
    rw [List.all_eq_true]
    intro x hx
    rw [List.mem_range] at hx
    simpa using h.all x hx

end Go.Proofs.Ytjikmpdgednlaaa
