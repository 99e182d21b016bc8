/- The specification's tests for rounds; a number that is cut off. -/
import Derived.Test.YtjikmpdgednlaaaXTree
namespace Go.Proofs.Ytjikmpdgednlaaa
open Go.ChangeShapes Go.WideShapes Go.ChangeAt Go.RowKit
set_option linter.unusedVariables false
set_option maxRecDepth 100000
attribute [local go_sem ↓] Go.wp_at_zero Go.wp_at_succ

/-- Node x is a loop of a wrong number of rounds. -/
def wrongT (x : Nd) : Bool := decide (x.k = 24) && (decide (x.n < 1) || decide (4 < x.n))
def timesF (l : List Nd) : Bool := !(l.any wrongT)
def capI (n : Int) : Int := if 1000000 < n then 1000000 else n

theorem l5cap_any (n : Int) (w : World) : Calls Try.prog 58 #[.int .i64 n] w fun e w' => e = .returned (.int .i64 (capI n)) ∧ w' = w := by
  by_cases h : 1000000 < n
  · have e : capI n = 1000000 := by rw [capI, if_pos h]
    rw [e]
    go_enter Try.func58, Try.ntmps58
    go_wp2
    go_ret
    exact ⟨rfl, rfl⟩
  · have e : capI n = n := by rw [capI, if_neg h]
    rw [e]
    go_enter Try.func58, Try.ntmps58
    go_wp2
    go_ret
    exact ⟨rfl, rfl⟩

theorem timesF_bad {l : List Nd} {i : Nat} (hi : i < l.length) (h : wrongT (ndAt l i) = true) : timesF l = false := by
  have hm : ndAt l i ∈ l := by
    have e : ndAt l i = l[i] := by simp [ndAt, hi]
    rw [e]
    exact List.getElem_mem hi
  have : l.any wrongT = true := List.any_eq_true.2 ⟨_, hm, h⟩
  rw [timesF, this]
  rfl
theorem timesF_good {l : List Nd} (h : ∀ i, i < l.length → wrongT (ndAt l i) = false) : timesF l = true := by
  have : l.any wrongT = false := by
    rw [List.any_eq_false]
    intro x hx
    obtain ⟨i, hi, rfl⟩ := List.mem_iff_getElem.1 hx
    have e : ndAt l i = l[i] := by simp [ndAt, hi]
    have := h i hi
    rw [e] at this
    simp [this]
  rw [timesF, this]
  rfl

set_option maxHeartbeats 4000000 in
theorem l5times_any (v u : Value) (l : List Nd) (p : List Pr) (w : World) {lo hi : Nat} (h : SetAt lo hi w v u l p) :
    Calls Try.prog 35 #[.agg #[v, u]] w fun e w' => e = .returned (.bool (timesF l)) ∧ Below w.heap.size w w' := by
  obtain ⟨a, c, b, d, rfl, rfl⟩ := h.forms
  have bA : Below w.heap.size w (w.alloc (Obj.cells #[.slice a l.length c, .slice b p.length d] 36)) := (Below.refl _ _).alloc (Nat.le_refl _) _
  have y0 : (w.alloc (Obj.cells #[.slice a l.length c, .slice b p.length d] 36)).cell? ⟨w.heap.size, 0, none⟩ = some (.slice a l.length c) := by simp [go_sem]
  have hN := h.1.stays bA
  obtain ⟨TOP, hTOP⟩ : ∃ r, timesF l = r := ⟨_, rfl⟩
  rw [hTOP]
  change Hid _ at hTOP
  go_enter Try.func35, Try.ntmps35
  go_wp2_with fail
  generalize w.alloc (Obj.cells #[.slice a l.length c, .slice b p.length d] 36) = wA at *
  obtain ⟨a1, c1, e1, hm1, hcc⟩ := id hN
  cases e1
  unfold maxLen at hm1
  go_loopw [3] (fun t3 wr => ∃ i : Nat, t3 = .int .i64 (i : Int) ∧ i ≤ l.length ∧ wr = wA ∧ ∀ x, x < i → wrongT (ndAt l x) = false) (fun t3 _ => l.length - (intOf t3).toNat)
  case atStart => exact ⟨0, rfl, Nat.zero_le _, rfl, fun x hx => absurd hx (Nat.not_lt_zero _)⟩
  case round =>
    rename World => wo
    obtain ⟨i, rfl, hi, rfl, hall⟩ := hrel
    by_cases hlt : i < l.length
    · obtain ⟨nb, off, rfl, hlo, hhi, hcl⟩ := hcc (by omega)
      obtain ⟨n0, n1, n2, _⟩ := hcl i hlt
      have i0 : (0 : Int) ≤ (i : Int) := by omega
      have i1 : (i : Int) < (l.length : Int) := by omega
      have next : wrongT (ndAt l i) = false → ∀ x, x < i + 1 → wrongT (ndAt l x) = false := fun hw x hx => by
        by_cases e : x = i
        · subst e; exact hw
        · exact hall x (by omega)
      have bad : wrongT (ndAt l i) = true → TOP = false := fun hw => hTOP.out.symm.trans (timesF_bad hlt hw)
      simp only [wrongT] at next bad
      change Hid _ at hall
      clear hcl hcc
      generalize (ndAt l i).k = K at *
      generalize (ndAt l i).n = M at *
      by_cases k1 : K = 24
      · subst k1
        by_cases m1 : M < 1
        · have e := bad (by simp [m1])
          subst e
          clear next bad
          go_wp2
          go_ret
          exact ⟨rfl, bA⟩
        · by_cases m2 : 4 < M
          · have e := bad (by simp [m2])
            subst e
            clear next bad
            go_wp2
            go_ret
            exact ⟨rfl, bA⟩
          · have nx := next (by simp; omega)
            clear next bad
            change Hid _ at nx
            go_wp2
            go_roundw
            case rel => exact ⟨i + 1, by go_num, by omega, trivial, nx.out⟩
            case measure => simp [intOf]; omega
      · have nx := next (by simp [k1])
        clear next bad
        change Hid _ at nx
        go_wp2
        go_roundw
        case rel => exact ⟨i + 1, by go_num, by omega, trivial, nx.out⟩
        case measure => simp [intOf]; omega
    · have hlt' : ¬ (i : Int) < (l.length : Int) := by omega
      have e : TOP = true := hTOP.out.symm.trans (timesF_good fun x hx => hall x (by omega))
      subst e
      clear hall hTOP
      go_wp2
      go_ret
      exact ⟨rfl, bA⟩

end Go.Proofs.Ytjikmpdgednlaaa
