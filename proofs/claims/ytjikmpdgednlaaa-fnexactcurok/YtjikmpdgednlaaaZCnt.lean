/- How many statements a node has; what is the same but for rounds of 2^64. -/
import Derived.Test.YtjikmpdgednlaaaXTreeP
namespace Go.Proofs.Ytjikmpdgednlaaa
open Go.RowKit Go.ChangeAt Go.WideShapes Go.ChangeShapes
set_option linter.unusedVariables false

def wr (x : Int) : Int := IntKind.i64.wrap x
theorem wr_64 (a : Int) : wrap64 a = wr a := by simp only [wr, IntKind.wrap_i64, wrap64]
theorem wr_add (a b : Int) : wr (wr a + b) = wr (a + b) := by simp only [wr, IntKind.wrap_i64]; omega
theorem wr_add' (a b : Int) : wr (a + wr b) = wr (a + b) := by simp only [wr, IntKind.wrap_i64]; omega
theorem wr_add_zero (a : Int) : wr (wr a) = wr a := by simp only [wr, IntKind.wrap_i64]; omega
theorem wr_id {a : Int} (h : -9223372036854775808 ≤ a) (h' : a ≤ 9223372036854775807) : wr a = a := by simp only [wr, IntKind.wrap_i64]; omega

/-- How many statements node k has (d: beyond all nodes that are looked at). -/
def cntF (l : List Nd) : Nat → Nat → Int
  | 0, _ => 0
  | d + 1, k => (if sortI (ndAt l k).k = 1 then 1 else 0) + ((ndAt l k).kids.map fun x => cntF l d x.toNat).sum
def cntS (l : List Nd) (d : Nat) (kids : List Int) : Int := (kids.map fun x => cntF l d x.toNat).sum
theorem cntS_take {l : List Nd} {d : Nat} {kids : List Int} {j : Nat} (hj : j < kids.length) : cntS l d (kids.take (j + 1)) = cntS l d (kids.take j) + cntF l d (iAt kids j).toNat := by
  have e : kids.take (j + 1) = kids.take j ++ [iAt kids j] := by
    rw [List.take_add_one, List.getElem?_eq_getElem hj]
    simp [iAt, hj]
  rw [e]
  simp [cntS]
theorem cntF_succ (l : List Nd) (d k : Nat) : cntF l (d + 1) k = (if sortI (ndAt l k).k = 1 then 1 else 0) + cntS l d (ndAt l k).kids := rfl
theorem kids_take_all (l : List Int) : l.take l.length = l := List.take_length

/-- All nodes are as they should be. -/
def NodesOk (l : List Nd) : Prop := ∀ m, m < l.length → NodeOk l m
theorem NodesOk.kid {l : List Nd} (h : NodesOk l) {k j : Nat} (hk : k < l.length) (hj : j < (ndAt l k).kids.length) : ∃ x : Nat, iAt (ndAt l k).kids j = (x : Int) ∧ x < k ∧ x < l.length ∧ sortI (ndAt l x).k = kidI (ndAt l k).k j := by
  obtain ⟨h1, h2, h3⟩ := (h k hk).kids j hj
  obtain ⟨x, hx⟩ := Int.eq_ofNat_of_zero_le h1
  rw [hx] at h2 h3
  exact ⟨x, hx, by omega, by omega, h3⟩

theorem sort0_kid {k : Int} {j : Nat} (h : sortI k = 0) : kidI k j = 0 := by
  unfold sortI at h
  unfold kidI
  split at h
  · cases h
  · split at h
    · cases h
    · rw [if_neg (by omega), if_neg (by omega), if_neg (by omega)]

theorem cntF_expr {l : List Nd} (h : NodesOk l) : ∀ (d k : Nat), k < l.length → sortI (ndAt l k).k = 0 → cntF l d k = 0
  | 0, _, _, _ => rfl
  | d + 1, k, hk, hs => by
    have hz : ∀ j, j ≤ (ndAt l k).kids.length → cntS l d ((ndAt l k).kids.take j) = 0 := fun j => by
      induction j with
      | zero => intro _; simp [cntS]
      | succ j ih =>
        intro hj
        obtain ⟨x, hx, hxk, hxl, hxs⟩ := h.kid hk (show j < (ndAt l k).kids.length by omega)
        rw [sort0_kid hs] at hxs
        have := cntF_expr h d x hxl hxs
        rw [cntS_take (by omega), ih (by omega), hx]
        show 0 + cntF l d x = 0
        omega
    rw [cntF_succ, if_neg (by omega)]
    have := hz _ (Nat.le_refl _)
    rw [kids_take_all] at this
    omega

end Go.Proofs.Ytjikmpdgednlaaa
