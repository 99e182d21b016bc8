/- How many steps a node takes at most. -/
import Derived.Test.YtjikmpdgednlaaaZCnt
import Derived.Test.YtjikmpdgednlaaaXTree3
namespace Go.Proofs.Ytjikmpdgednlaaa
set_option linter.unusedVariables false

theorem capI_le (n : Int) : capI n ≤ 1000000 := by unfold capI; split <;> omega
theorem capI_nn {n : Int} (h : 0 ≤ n) : 0 ≤ capI n := by unfold capI; split <;> omega
theorem capI_add {a b : Int} (h : 0 ≤ b) : capI (capI a + b) = capI (a + b) := by
  unfold capI
  split <;> split <;> (try split) <;> omega

theorem capI_add' {a b : Int} (h : 0 ≤ b) : capI (capI a + b) = capI (a + b) := capI_add h

def stpF (l : List Nd) : Nat → Nat → Int
  | 0, _ => 0
  | d + 1, k =>
    if (ndAt l k).k = 27 then capI ((ndAt l k).kids.map fun x => stpF l d x.toNat).sum
    else if (ndAt l k).k = 23 then capI (1 + max (stpF l d (iAt (ndAt l k).kids 1).toNat) (if (ndAt l k).kids.length = 3 then stpF l d (iAt (ndAt l k).kids 2).toNat else 0))
    else if (ndAt l k).k = 24 then capI (2 + (ndAt l k).n * (1 + stpF l d (iAt (ndAt l k).kids 0).toNat))
    else 1
def stpS (l : List Nd) (d : Nat) (kids : List Int) : Int := (kids.map fun x => stpF l d x.toNat).sum
theorem stpS_take {l : List Nd} {d : Nat} {kids : List Int} {j : Nat} (hj : j < kids.length) : stpS l d (kids.take (j + 1)) = stpS l d (kids.take j) + stpF l d (iAt kids j).toNat := by
  have e : kids.take (j + 1) = kids.take j ++ [iAt kids j] := by
    rw [List.take_add_one, List.getElem?_eq_getElem hj]
    simp [iAt, hj]
  rw [e]
  simp [stpS]
theorem stpF_block {l : List Nd} {d k : Nat} (h : (ndAt l k).k = 27) : stpF l (d + 1) k = capI (stpS l d (ndAt l k).kids) := by rw [stpF, if_pos h]; rfl
theorem stpF_if {l : List Nd} {d k : Nat} (h : (ndAt l k).k = 23) : stpF l (d + 1) k = capI (1 + max (stpF l d (iAt (ndAt l k).kids 1).toNat) (if (ndAt l k).kids.length = 3 then stpF l d (iAt (ndAt l k).kids 2).toNat else 0)) := by
  rw [stpF, if_neg (by omega), if_pos h]
theorem stpF_for {l : List Nd} {d k : Nat} (h : (ndAt l k).k = 24) : stpF l (d + 1) k = capI (2 + (ndAt l k).n * (1 + stpF l d (iAt (ndAt l k).kids 0).toNat)) := by
  rw [stpF, if_neg (by omega), if_neg (by omega), if_pos h]
theorem stpF_else {l : List Nd} {d k : Nat} (h1 : ¬ (ndAt l k).k = 27) (h2 : ¬ (ndAt l k).k = 23) (h3 : ¬ (ndAt l k).k = 24) : stpF l (d + 1) k = 1 := by
  rw [stpF, if_neg h1, if_neg h2, if_neg h3]

/-- Each loop has one to four rounds. -/
def TimesOk (l : List Nd) : Prop := ∀ m, m < l.length → (ndAt l m).k = 24 → 1 ≤ (ndAt l m).n ∧ (ndAt l m).n ≤ 4
theorem stpF_nn {l : List Nd} (hn : NodesOk l) (ht : TimesOk l) : ∀ (d k : Nat), k < l.length → 0 ≤ stpF l d k ∧ stpF l d k ≤ 1000000
  | 0, k, _ => by rw [stpF]; omega
  | d + 1, k, hk => by
    have ih := stpF_nn hn ht d
    by_cases h27 : (ndAt l k).k = 27
    · rw [stpF_block h27]
      have hz : ∀ j, j ≤ (ndAt l k).kids.length → 0 ≤ stpS l d ((ndAt l k).kids.take j) := fun j => by
        induction j with
        | zero => intro _; simp [stpS]
        | succ j ihj =>
          intro hj
          obtain ⟨x, hx, hxk, hxl, _⟩ := hn.kid hk (show j < (ndAt l k).kids.length by omega)
          rw [stpS_take (by omega), hx]
          have a := ihj (by omega)
          have b := (ih x hxl).1
          show 0 ≤ _ + stpF l d x
          omega
      have := hz _ (Nat.le_refl _)
      rw [kids_take_all] at this
      exact ⟨capI_nn this, capI_le _⟩
    · by_cases h23 : (ndAt l k).k = 23
      · rw [stpF_if h23]
        have hN := hn k hk
        have hm : manyI (ndAt l k).k = (2, 3) := by rw [h23]; rfl
        have hlo := hN.lo
        rw [hm] at hlo
        have hlo' : (2 : Int) ≤ ((ndAt l k).kids.length : Int) := hlo
        obtain ⟨x, hx, hxk, hxl, _⟩ := hn.kid hk (show 1 < (ndAt l k).kids.length by omega)
        rw [hx]
        have b := (ih x hxl).1
        refine ⟨capI_nn ?_, capI_le _⟩
        have e : ((x : Int)).toNat = x := rfl
        rw [e]
        omega
      · by_cases h24 : (ndAt l k).k = 24
        · rw [stpF_for h24]
          have hN := hn k hk
          have hm : manyI (ndAt l k).k = (1, 1) := by rw [h24]; rfl
          have hlo := hN.lo
          rw [hm] at hlo
          have hlo' : (1 : Int) ≤ ((ndAt l k).kids.length : Int) := hlo
          obtain ⟨x, hx, hxk, hxl, _⟩ := hn.kid hk (show 0 < (ndAt l k).kids.length by omega)
          rw [hx]
          have b := (ih x hxl).1
          have e : ((x : Int)).toNat = x := rfl
          rw [e]
          have t := ht k hk h24
          have m0 : 0 ≤ (ndAt l k).n * (1 + stpF l d x) := Int.mul_nonneg (by omega) (by omega)
          exact ⟨capI_nn (by omega), capI_le _⟩
        · rw [stpF_else h27 h23 h24]
          omega

theorem stpS_nn {l : List Nd} (hn : NodesOk l) (ht : TimesOk l) {k : Nat} (hk : k < l.length) (d : Nat) : ∀ j, j ≤ (ndAt l k).kids.length → 0 ≤ stpS l d ((ndAt l k).kids.take j)
  | 0, _ => by simp [stpS]
  | j + 1, hj => by
    obtain ⟨x, hx, hxk, hxl, _⟩ := hn.kid hk (show j < (ndAt l k).kids.length by omega)
    rw [stpS_take (by omega), hx]
    have a := stpS_nn hn ht hk d j (by omega)
    have b := (stpF_nn hn ht d x hxl).1
    show 0 ≤ _ + stpF l d x
    omega

theorem stpS_tk {l : List Nd} {kids : List Int} {k : Nat} (hn : NodesOk l) (ht : TimesOk l) (hk : k < l.length) (HK : ∀ j, j < kids.length → ∃ x : Nat, iAt kids j = (x : Int) ∧ x < k ∧ x < l.length ∧ sortI (ndAt l x).k = 1) : ∀ j, j < kids.length → ∀ d, 0 ≤ stpS l d (kids.take j)
  | 0, _, d => by simp [stpS]
  | j + 1, hj, d => by
    obtain ⟨x, hx, hxk, hxl, _⟩ := HK j (by omega)
    rw [stpS_take (by omega), hx]
    have a := stpS_tk hn ht hk HK j (by omega) d
    have b := (stpF_nn hn ht d x hxl).1
    show 0 ≤ _ + stpF l d x
    omega

end Go.Proofs.Ytjikmpdgednlaaa
