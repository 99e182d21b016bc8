/- spec.l6putRow, spec.PutRow. -/
import Derived.Test.YtgnfiakbcogdlaoPutR3
namespace Go.Proofs.Ytgnfiakbcogdlao
open Go.ChangeShapes Go.WideShapes Go.ChangeAt Go.RowKit Go.Sort Go.Maps Go.Deep Go.Joins
set_option linter.unusedVariables false
set_option maxRecDepth 100000
attribute [local go_sem ↓] Go.wp_at_zero Go.wp_at_succ

/-- The rows with one put among them, the key's own taken out. -/
def putGo (kv : Rw) : Bool → List Rw → List Rw
  | done, [] => if done then [] else [kv]
  | done, x :: l =>
    if done = false ∧ klB x.t x.r kv.t kv.r = false then
      kv :: (if x.t = kv.t ∧ x.r = kv.r then putGo kv true l else x :: putGo kv true l)
    else if x.t = kv.t ∧ x.r = kv.r then putGo kv done l else x :: putGo kv done l

theorem putGo_len (kv : Rw) : ∀ (done : Bool) (l : List Rw), (putGo kv done l).length ≤ l.length + 1
  | done, [] => by unfold putGo; split <;> simp
  | done, x :: l => by
    have h1 := putGo_len kv true l
    have h2 := putGo_len kv done l
    have h3 : (putGo kv true l).length ≤ l.length := putGo_true kv l
    unfold putGo
    split
    · split <;> simp <;> omega
    · split <;> simp <;> omega
where putGo_true (kv : Rw) : ∀ l : List Rw, (putGo kv true l).length ≤ l.length
  | [] => by simp [putGo]
  | x :: l => by
    have h := putGo_true kv l
    unfold putGo
    rw [if_neg (by simp)]
    split <;> simp <;> omega

theorem putGo_val (kv : Rw) (t r : Int) (hne : ¬ (kv.t = t ∧ kv.r = r)) : ∀ (done : Bool) (l : List Rw), rowOfF t r (putGo kv done l) = rowOfF t r l
  | done, [] => by
    unfold putGo
    cases done
    · simp [rowOfF, hne]
    · simp
  | done, x :: l => by
    have h1 := putGo_val kv t r hne true l
    have h2 := putGo_val kv t r hne done l
    unfold putGo
    by_cases e : x.t = kv.t ∧ x.r = kv.r
    · have e' : ¬ (x.t = t ∧ x.r = r) := by rw [e.1, e.2]; exact hne
      split
      · simp only [rowOfF]; rw [if_neg hne, if_neg e', h1]
      · simp only [rowOfF]; rw [if_neg e', h2]
    · split
      · simp only [rowOfF]; rw [if_neg hne, h1]
      · simp only [rowOfF]; rw [h2]

theorem putGo_mem (kv : Rw) : ∀ (done : Bool) (l : List Rw) (x : Rw), x ∈ putGo kv done l → (x = kv ∧ done = false) ∨ (x ∈ l ∧ ¬ (x.t = kv.t ∧ x.r = kv.r))
  | done, [], x, h => by
    unfold putGo at h
    cases done
    · left; simpa using h
    · simp at h
  | done, y :: l, x, h => by
    have h1 := putGo_mem kv true l x
    have h2 := putGo_mem kv done l x
    unfold putGo at h
    by_cases e : y.t = kv.t ∧ y.r = kv.r
    · split at h
      · rename_i hd
        rcases List.mem_cons.1 h with rfl | h
        · exact .inl ⟨rfl, hd.1⟩
        · rcases h1 h with ⟨_, h'⟩ | ⟨ha, hb⟩
          · cases h'
          · exact .inr ⟨List.mem_cons_of_mem _ ha, hb⟩
      · rcases h2 h with h' | ⟨ha, hb⟩
        · exact .inl h'
        · exact .inr ⟨List.mem_cons_of_mem _ ha, hb⟩
    · split at h
      · rename_i hd
        rcases List.mem_cons.1 h with rfl | h
        · exact .inl ⟨rfl, hd.1⟩
        · rcases List.mem_cons.1 h with rfl | h
          · exact .inr ⟨List.mem_cons_self .., e⟩
          · rcases h1 h with ⟨_, h'⟩ | ⟨ha, hb⟩
            · cases h'
            · exact .inr ⟨List.mem_cons_of_mem _ ha, hb⟩
      · rcases List.mem_cons.1 h with rfl | h
        · exact .inr ⟨List.mem_cons_self .., e⟩
        · rcases h2 h with h' | ⟨ha, hb⟩
          · exact .inl h'
          · exact .inr ⟨List.mem_cons_of_mem _ ha, hb⟩

theorem klB_of_not {a b c d : Int} (h : klB a b c d = false) (hne : ¬ (a = c ∧ b = d)) : klB c d a b = true := by
  have h' : ¬ klB a b c d = true := by simp [h]
  rw [klB_iff] at h' ⊢; omega

theorem putGo_asc (kv : Rw) : ∀ (done : Bool) (l : List Rw), ascR l → (done = true → True) → ascR (putGo kv done l)
  | done, [], _, _ => by unfold putGo; cases done <;> simp [ascR]
  | done, x :: l, h, hd => by
    have hl := (List.pairwise_cons.1 h).2
    have hx := (List.pairwise_cons.1 h).1
    have h1 := putGo_asc kv true l hl (fun _ => trivial)
    have h2 := putGo_asc kv done l hl (fun _ => trivial)
    have m1 : ∀ y ∈ putGo kv true l, klB x.t x.r y.t y.r = true := fun y hy => by
      rcases putGo_mem kv true l y hy with ⟨_, h'⟩ | ⟨ha, _⟩
      · cases h'
      · exact hx y ha
    unfold putGo
    split
    · rename_i hc
      by_cases e : x.t = kv.t ∧ x.r = kv.r
      · rw [if_pos e]
        refine List.pairwise_cons.2 ⟨fun y hy => ?_, h1⟩
        rw [← e.1, ← e.2]; exact m1 y hy
      · rw [if_neg e]
        have hk := klB_of_not hc.2 e
        refine List.pairwise_cons.2 ⟨fun y hy => ?_, List.pairwise_cons.2 ⟨m1, h1⟩⟩
        rcases List.mem_cons.1 hy with rfl | hy
        · exact hk
        · exact klB_trans hk (m1 y hy)
    · rename_i hc
      by_cases e : x.t = kv.t ∧ x.r = kv.r
      · rw [if_pos e]; exact h2
      · rw [if_neg e]
        refine List.pairwise_cons.2 ⟨fun y hy => ?_, h2⟩
        rcases putGo_mem kv done l y hy with ⟨rfl, h'⟩ | ⟨ha, _⟩
        · subst h'
          by_cases hk : klB x.t x.r y.t y.r = true
          · exact hk
          · exact absurd ⟨rfl, by simpa using hk⟩ hc
        · exact hx y ha

theorem putGo_own (kv : Rw) : ∀ (l : List Rw), ascR l → rowOfF kv.t kv.r (putGo kv false l) = kv.v
  | [], _ => by simp [putGo, rowOfF]
  | x :: l, h => by
    have ih := putGo_own kv l (List.pairwise_cons.1 h).2
    unfold putGo
    split
    · simp [rowOfF]
    · rename_i hc
      by_cases e : x.t = kv.t ∧ x.r = kv.r
      · exfalso
        apply hc
        refine ⟨rfl, ?_⟩
        rw [e.1, e.2]
        simp [klB]
      · rw [if_neg e]; simp only [rowOfF]; rw [if_neg e, ih]
theorem putGo_gone (kv : Rw) : ∀ (l : List Rw), rowOfF kv.t kv.r (putGo kv true l) = 0 := fun l =>
  rowOfF_absent fun x hx => by
    rcases putGo_mem kv true l x hx with ⟨_, h'⟩ | ⟨_, hb⟩
    · cases h'
    · exact hb

theorem keysUp_asc : ∀ {l : List Rw}, keysUp l → ascR l := fun {l} h => by
  rw [ascR, List.pairwise_iff_getElem]
  intro i j hi hj hij
  rw [rAt_get hi, rAt_get hj]
  exact rows_lt h hij hj

/-- What is put among rows in order are the rows of the new values. -/
theorem putGo_is {l : List Rw} (hok : rowsOk' l) (hw : WfRw l) {t r : Int} (ht : wf t) (hr : wf r) (v : Int) : RowsOf (updM (fun t r => rowOfF t r l) t r v) (putGo ⟨t, r, v⟩ (v == 0) l) where
  asc := putGo_asc _ _ _ (keysUp_asc hok.1) (fun _ => trivial)
  nz := fun x hx => by
    rcases putGo_mem _ _ _ x hx with ⟨rfl, h⟩ | ⟨h, _⟩
    · simpa using h
    · obtain ⟨i, hi, rfl⟩ := List.getElem_of_mem h
      rw [rAt_get hi]; exact hok.2 i hi
  wfk := fun x hx => by
    rcases putGo_mem _ _ _ x hx with ⟨rfl, h⟩ | ⟨h, _⟩
    · exact ⟨ht, hr⟩
    · obtain ⟨i, hi, rfl⟩ := List.getElem_of_mem h
      rw [rAt_get hi]; exact hw i hi
  val := fun t' r' _ _ => by
    unfold updM
    by_cases e : t' = t ∧ r' = r
    · obtain ⟨rfl, rfl⟩ := e
      rw [if_pos ⟨rfl, rfl⟩]
      by_cases hv : v = 0
      · subst hv
        exact putGo_gone ⟨t', r', 0⟩ l
      · have : (v == 0) = false := by simpa using hv
        rw [this]
        exact putGo_own ⟨t', r', v⟩ l (keysUp_asc hok.1)
    · rw [if_neg e]
      exact putGo_val _ _ _ (fun h => e ⟨h.1.symm, h.2.symm⟩) _ _

end Go.Proofs.Ytgnfiakbcogdlao
