/- An element goes ahead in a row as long as it is less than the one ahead of it: the row stays in order. Of whatever type. -/
import Derived.Test.YtfliahkcfnpjcajPutL
import Derived.Test.YtfliahkcfnpjcajRData
namespace Go.Proofs.Ytfliahkcfnpjcaj
set_option linter.unusedVariables false

section
variable {α : Type} (lt : α → α → Bool) (d : α)
def swpG (l : List α) (i : Nat) : List α := (l.set (i + 1) (l.getD i d)).set i (l.getD (i + 1) d)
def bubG : List α → Nat → List α
  | l, 0 => l
  | l, i + 1 => if lt (l.getD (i + 1) d) (l.getD i d) = true then bubG (swpG d l i) i else l

theorem swpG_at (A : List α) (a c : α) (B : List α) : swpG d (A ++ a :: c :: B) A.length = A ++ c :: a :: B := by
  have h1 : (A ++ a :: c :: B).getD A.length d = a := by simp
  have h2 : (A ++ a :: c :: B).getD (A.length + 1) d = c := by simp
  rw [swpG, h1, h2, List.set_append_right _ _ (by omega), List.set_append_right _ _ (by omega)]
  simp

theorem bubG_is (htr : ∀ a b c, lt a b = true → lt b c = true → lt a c = true) : ∀ (n : Nat) (A : List α) (c : α) (B : List α), A.length = n → A.Pairwise (fun a b => lt a b = true) → (∀ a ∈ A, lt a c = true ∨ lt c a = true) →
    ∃ A1 A2, A = A1 ++ A2 ∧ bubG lt d (A ++ c :: B) n = A1 ++ c :: (A2 ++ B) ∧ (A1 ++ c :: A2).Pairwise (fun a b => lt a b = true)
  | 0, A, c, B, hn, hp, hc => by
    have : A = [] := List.length_eq_zero_iff.1 hn
    subst this
    exact ⟨[], [], rfl, rfl, by simp⟩
  | n + 1, A, c, B, hn, hp, hc => by
    obtain ⟨A', a, rfl⟩ : ∃ A' a, A = A' ++ [a] := ⟨A.dropLast, A.getLast (by intro e; rw [e] at hn; simp at hn), (List.dropLast_concat_getLast _).symm⟩
    have hn' : A'.length = n := by simpa using hn
    subst hn'
    rw [List.pairwise_append] at hp
    obtain ⟨hp1, _, hp3⟩ := hp
    have h1 : (A' ++ [a] ++ c :: B).getD (A'.length + 1) d = c := by simp
    have h2 : (A' ++ [a] ++ c :: B).getD A'.length d = a := by simp
    have e : A' ++ [a] ++ c :: B = A' ++ a :: c :: B := by simp
    rw [bubG, h1, h2]
    by_cases hl : lt c a = true
    · rw [if_pos hl, e, swpG_at]
      obtain ⟨A1, A2, e1, e2, e3⟩ := bubG_is htr A'.length A' c (a :: B) rfl hp1 fun x hx => hc x (List.mem_append_left _ hx)
      refine ⟨A1, A2 ++ [a], by rw [e1]; simp, by rw [e2]; simp, ?_⟩
      rw [show A1 ++ c :: (A2 ++ [a]) = (A1 ++ c :: A2) ++ [a] by simp, List.pairwise_append]
      refine ⟨e3, by simp, fun x hx y hy => ?_⟩
      obtain rfl : y = a := by simpa using hy
      rcases List.mem_append.1 hx with hx | hx
      · exact hp3 x (by rw [e1]; exact List.mem_append_left _ hx) y (by simp)
      · rcases List.mem_cons.1 hx with rfl | hx
        · exact hl
        · exact hp3 x (by rw [e1]; exact List.mem_append_right _ hx) y (by simp)
    · rw [if_neg hl]
      have hac : lt a c = true := (hc a (by simp)).resolve_right hl
      refine ⟨A' ++ [a], [], by simp, by simp, ?_⟩
      rw [List.pairwise_append]
      refine ⟨?_, by simp, fun x hx y hy => ?_⟩
      · rw [List.pairwise_append]
        exact ⟨hp1, by simp, hp3⟩
      · obtain rfl : y = c := by simpa using hy
        rcases List.mem_append.1 hx with hx | hx
        · exact htr _ _ _ (hp3 x hx a (by simp)) hac
        · obtain rfl : x = a := by simpa using hx
          exact hac

/-- One more in a row in order: the row in order, and who is in it. -/
theorem bubG_new (htr : ∀ a b c, lt a b = true → lt b c = true → lt a c = true) (l : List α) (c : α) (hp : l.Pairwise (fun a b => lt a b = true)) (hc : ∀ a ∈ l, lt a c = true ∨ lt c a = true) :
    (bubG lt d (l ++ [c]) l.length).Pairwise (fun a b => lt a b = true) ∧ (∀ x, x ∈ bubG lt d (l ++ [c]) l.length ↔ x ∈ l ∨ x = c) ∧ (bubG lt d (l ++ [c]) l.length).length = l.length + 1 := by
  obtain ⟨A1, A2, e1, e2, e3⟩ := bubG_is lt d htr l.length l c [] rfl hp hc
  rw [e2]
  simp only [List.append_nil]
  refine ⟨e3, fun x => ?_, ?_⟩
  · rw [e1]; simp only [List.mem_append, List.mem_cons]
    constructor
    · rintro (h | h | h)
      · exact .inl (.inl h)
      · exact .inr h
      · exact .inl (.inr h)
    · rintro ((h | h) | h)
      · exact .inl h
      · exact .inr (.inr h)
      · exact .inr (.inl h)
  · have : l.length = A1.length + A2.length := by rw [e1]; simp
    simp; omega

theorem swpG_length (l : List α) (i : Nat) : (swpG d l i).length = l.length := by simp [swpG]
theorem bubG_length : ∀ (i : Nat) (l : List α), (bubG lt d l i).length = l.length
  | 0, l => rfl
  | i + 1, l => by
    rw [bubG]
    split
    · rw [bubG_length i, swpG_length]
    · rfl
end

def kltC (a b : Ch) : Bool := klB a.t a.r b.t b.r
def kltR (a b : Rw) : Bool := klB a.t a.r b.t b.r
theorem klB_total {a b c d : Int} (h : ¬ (a = c ∧ b = d)) : klB a b c d = true ∨ klB c d a b = true := by
  simp only [klB, decide_eq_true_eq] at *; omega
theorem klB_irrefl {a b : Int} (h : klB a b a b = true) : False := by
  simp only [klB, decide_eq_true_eq] at h; omega
theorem bub_is : ∀ (i : Nat) (l : List Ch), bub l i = bubG kltC ch0 l i
  | 0, l => rfl
  | i + 1, l => by
    rw [bub, bubG, bub_is i]
    rfl

end Go.Proofs.Ytfliahkcfnpjcaj
