/- Texts of bounded length: the sum of all is bounded. -/
import Derived.Test.YtjikmpdgednlaaaYFit
import Derived.Test.YtjikmpdgednlaaaTSize
namespace Go.Proofs.Ytjikmpdgednlaaa
set_option linter.unusedVariables false

theorem sum_le {α : Type} (f : α → Nat) (B : Nat) : ∀ (l : List α), (∀ x, x ∈ l → f x ≤ B) → (l.map f).sum ≤ l.length * B
  | [], _ => by simp
  | x :: r, h => by
    have a := sum_le f B r fun y hy => h y (List.mem_cons_of_mem _ hy)
    have b := h x (List.mem_cons_self ..)
    rw [List.map_cons, List.sum_cons, List.length_cons, Nat.add_mul, Nat.one_mul]
    omega
theorem small_sum {l : List Nd} {p : List Pr} (h : SmallS l p) : sumS l + sumP p ≤ 4611686018427387904 := by
  have h1 : sumS l ≤ l.length * 1048576 := sum_le (fun x : Nd => x.s.size) 1048576 l fun x hx => by
    obtain ⟨i, hi, e⟩ := List.mem_iff_getElem.1 hx
    have e2 : ndAt l i = x := by simp [ndAt, hi, e]
    rw [← e2]
    exact h.1.2 i hi
  have h2 : sumP p ≤ p.length * 1099512676352 := sum_le (fun x : Pr => x.name.size + sumT x.ps) 1099512676352 p fun x hx => by
    obtain ⟨i, hi, e⟩ := List.mem_iff_getElem.1 hx
    have e2 : prAt p i = x := by simp [prAt, hi, e]
    have h3 := h.2.2 i hi
    rw [e2] at h3
    have h4 : sumT x.ps ≤ x.ps.length * 1048576 := sum_le (fun y : ByteArray => y.size) 1048576 x.ps fun y hy => by
      obtain ⟨j, hj, ej⟩ := List.mem_iff_getElem.1 hy
      have e3 : sAt x.ps j = y := by simp [sAt, hj, ej]
      rw [← e3]
      exact h3.2 j hj
    have h5 : x.ps.length ≤ 1048576 := by
      have := h.2.1.2 i hi
      rw [e2] at this
      exact this
    have h6 := Nat.mul_le_mul_right 1048576 h5
    show x.name.size + sumT x.ps ≤ _
    omega
  have h3 := Nat.mul_le_mul_right 1048576 h.1.1.1
  have h4 := Nat.mul_le_mul_right 1099512676352 h.2.1.1
  omega

end Go.Proofs.Ytjikmpdgednlaaa
