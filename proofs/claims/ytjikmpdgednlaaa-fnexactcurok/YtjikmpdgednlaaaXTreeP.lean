/- What it means that treeF says yes. -/
import Derived.Test.YtjikmpdgednlaaaXTree
namespace Go.Proofs.Ytjikmpdgednlaaa
set_option linter.unusedVariables false

/-- Node m of a tree set. -/
structure NodeOk (l : List Nd) (m : Nat) : Prop where
  least : 0 ≤ (manyI (ndAt l m).k).1
  lo : (manyI (ndAt l m).k).1 ≤ ((ndAt l m).kids.length : Int)
  hi : ((ndAt l m).kids.length : Int) ≤ (manyI (ndAt l m).k).2
  kids : ∀ j, j < (ndAt l m).kids.length → 0 ≤ iAt (ndAt l m).kids j ∧ iAt (ndAt l m).kids j < (m : Int) ∧ sortI (ndAt l (iAt (ndAt l m).kids j).toNat).k = kidI (ndAt l m).k j
def kidsAll (l : List Nd) (i n : Nat) : List Int := (List.range' i n).flatMap fun m => (ndAt l m).kids

theorem kidsF_some {l : List Nd} {i : Nat} {k : Int} : ∀ (kids : List Int) (j : Nat) (used used' : List Int), kidsF l i k j kids used = some used' → used' = used ++ kids ∧ ∀ m, m < kids.length → 0 ≤ iAt kids m ∧ iAt kids m < (i : Int) ∧ sortI (ndAt l (iAt kids m).toNat).k = kidI k (j + m)
  | [], j, used, used', h => by
    rw [kidsF] at h
    injection h with h
    exact ⟨by simp [h], fun m hm => absurd hm (Nat.not_lt_zero _)⟩
  | x :: r, j, used, used', h => by
    rw [kidsF] at h
    split at h
    · cases h
    · rename_i hc
      obtain ⟨h1, h2⟩ := kidsF_some r (j + 1) (used ++ [x]) used' h
      refine ⟨by rw [h1]; simp, fun m hm => ?_⟩
      cases m with
      | zero =>
        have e : iAt (x :: r) 0 = x := rfl
        rw [e]
        refine ⟨by omega, by omega, ?_⟩
        by_cases hs : sortI (ndAt l x.toNat).k = kidI k j
        · exact hs
        · exact absurd (.inr (.inr (.inr hs))) hc
      | succ m =>
        have e : iAt (x :: r) (m + 1) = iAt r m := by simp [iAt]
        rw [e]
        have := h2 m (by simpa using hm)
        rw [show j + (m + 1) = j + 1 + m by omega]
        exact this

theorem nodesF_some {l : List Nd} : ∀ (n i : Nat) (used : List Int) (left : Int) (used' : List Int) (left' : Int), nodesF l n i used left = some (used', left') → used' = used ++ kidsAll l i n ∧ ∀ m, i ≤ m → m < i + n → NodeOk l m
  | 0, i, used, left, used', left', h => by
    rw [nodesF] at h
    injection h with h
    injection h with h1 h2
    exact ⟨by simp [kidsAll, h1], fun m h1 h2 => by omega⟩
  | n + 1, i, used, left, used', left', h => by
    rw [nodesF] at h
    split at h
    · cases h
    · rename_i hc
      cases hk : kidsF l i (ndAt l i).k 0 (ndAt l i).kids used with
      | none => rw [hk] at h; cases h
      | some u =>
        rw [hk, Option.bind_some] at h
        obtain ⟨k1, k2⟩ := kidsF_some _ _ _ _ hk
        obtain ⟨h1, h2⟩ := nodesF_some n (i + 1) u _ used' left' h
        refine ⟨by rw [h1, k1, kidsAll, kidsAll, List.range'_succ]; simp, fun m hm1 hm2 => ?_⟩
        by_cases e : m = i
        · subst e
          exact ⟨by omega, by omega, by omega, fun j hj => by have := k2 j hj; rw [Nat.zero_add] at this; exact this⟩
        · exact h2 m (by omega) (by omega)

theorem procsF_some {l : List Nd} : ∀ (p : List Pr) (used : List Int) (left : Int) (used' : List Int), procsF l p used left = some used' → used' = used ++ p.map (·.body) ∧ ∀ x, x ∈ p → 0 ≤ x.body ∧ x.body < (l.length : Int) ∧ (ndAt l x.body.toNat).k = 27 ∧ x.ps.length ≤ 800
  | [], used, left, used', h => by
    rw [procsF] at h
    injection h with h
    exact ⟨by simp [h], fun x hx => absurd hx (by simp)⟩
  | x :: r, used, left, used', h => by
    rw [procsF] at h
    split at h
    · cases h
    · rename_i hc
      cases hk : paramsF x.ps (left - (x.name.size : Int)) with
      | none => rw [hk] at h; cases h
      | some u =>
        rw [hk, Option.bind_some] at h
        obtain ⟨h1, h2⟩ := procsF_some r (used ++ [x.body]) u used' h
        refine ⟨by rw [h1]; simp, fun y hy => ?_⟩
        rcases List.mem_cons.1 hy with rfl | hy
        · refine ⟨by omega, by omega, ?_, by omega⟩
          by_cases hs : (ndAt l y.body.toNat).k = 27
          · exact hs
          · exact absurd (.inr (.inr (.inr (.inl hs)))) hc
        · exact h2 y hy

/-- A tree set. -/
structure TreeP (l : List Nd) (p : List Pr) : Prop where
  nodes : l.length ≤ 4000
  procs : p.length ≤ 800
  node : ∀ m, m < l.length → NodeOk l m
  body : ∀ x, x ∈ p → 0 ≤ x.body ∧ x.body < (l.length : Int) ∧ (ndAt l x.body.toNat).k = 27 ∧ x.ps.length ≤ 800
  once : ∀ m, m < l.length → (kidsAll l 0 l.length ++ p.map (·.body)).count (m : Int) = 1

theorem treeF_true {l : List Nd} {p : List Pr} (h : treeF l p = true) : TreeP l p := by
  rw [treeF] at h
  split at h
  · cases h
  · rename_i hc
    split at h
    · cases h
    · rename_i used he
      cases hn : nodesF l l.length 0 [] 24000 with
      | none => rw [hn] at he; cases he
      | some x =>
        obtain ⟨u, left⟩ := x
        rw [hn, Option.bind_some] at he
        obtain ⟨n1, n2⟩ := nodesF_some _ _ _ _ _ _ hn
        obtain ⟨p1, p2⟩ := procsF_some _ _ _ _ he
        rw [List.nil_append] at n1
        refine ⟨by omega, by omega, fun m hm => n2 m (Nat.zero_le _) (by omega), p2, fun m hm => ?_⟩
        rw [List.all_eq_true] at h
        have := h m (List.mem_range.2 hm)
        have h3 := of_decide_eq_true this
        rw [p1, n1] at h3
        exact h3

end Go.Proofs.Ytjikmpdgednlaaa
