/- Tree sets, as a function; the specification's small functions. -/
import Derived.Test.YtjikmpdgednlaaaRows
import Derived.Test.YtjikmpdgednlaaaTSetAt
import Derived.Test.YtjikmpdgednlaaaRowOf
import Derived.Test.YtjikmpdgednlaaaRegLast
import Derived.Outline
import Derived.Handy
import Derived.Lib.QuietBelow
import Derived.BigQuiet
namespace Go.Proofs.Ytjikmpdgednlaaa
open Go.ChangeShapes Go.WideShapes Go.ChangeAt Go.RowKit
set_option linter.unusedVariables false
set_option maxRecDepth 100000
attribute [local go_sem ↓] Go.wp_at_zero Go.wp_at_succ

/-- How many kids a node may have: from, to. -/
def manyI (k : Int) : Int × Int :=
  if k = 0 ∨ k = 1 ∨ k = 25 then (0, 0) else if k = 2 ∨ k = 20 ∨ k = 21 ∨ k = 24 ∨ k = 26 then (1, 1) else if k = 23 then (2, 3) else if k = 27 then (0, 4000)
  else if (3 ≤ k ∧ k ≤ 9) ∨ k = 22 then (2, 2) else (-1, -1)
/-- An expression (0), a statement (1) or a block (2). -/
def sortI (k : Int) : Int := if k = 27 then 2 else if 20 ≤ k then 1 else 0
/-- Of which sort kid j must be. -/
def kidI (k : Int) (j : Nat) : Int := if k = 27 then 1 else if k = 24 then 2 else if k = 23 ∧ 0 < j then 2 else 0

/-- The kids of node i, from number j on: what is used behind them. -/
def kidsF (l : List Nd) (i : Nat) (k : Int) : Nat → List Int → List Int → Option (List Int)
  | _, [], used => some used
  | j, x :: r, used => if x < 0 ∨ (i : Int) ≤ x ∨ 0 < used.count x ∨ ¬ sortI (ndAt l x.toNat).k = kidI k j then none else kidsF l i k (j + 1) r (used ++ [x])
/-- Nodes from i on: what is used behind them, and how many bytes are left. -/
def nodesF (l : List Nd) : Nat → Nat → List Int → Int → Option (List Int × Int)
  | 0, _, used, left => some (used, left)
  | n + 1, i, used, left => if (manyI (ndAt l i).k).1 < 0 ∨ ((ndAt l i).kids.length : Int) < (manyI (ndAt l i).k).1 ∨ (manyI (ndAt l i).k).2 < ((ndAt l i).kids.length : Int) ∨ left < ((ndAt l i).s.size : Int) then none
    else (kidsF l i (ndAt l i).k 0 (ndAt l i).kids used).bind fun used => nodesF l n (i + 1) used (left - ((ndAt l i).s.size : Int))
def paramsF : List ByteArray → Int → Option Int
  | [], left => some left
  | x :: r, left => if left < (x.size : Int) then none else paramsF r (left - (x.size : Int))
def procsF (l : List Nd) : List Pr → List Int → Int → Option (List Int)
  | [], used, _ => some used
  | x :: r, used, left => if x.body < 0 ∨ (l.length : Int) ≤ x.body ∨ 0 < used.count x.body ∨ ¬ (ndAt l x.body.toNat).k = 27 ∨ 800 < x.ps.length ∨ left < (x.name.size : Int) then none
    else (paramsF x.ps (left - (x.name.size : Int))).bind fun left => procsF l r (used ++ [x.body]) left
/-- Is it a tree set? -/
def treeF (l : List Nd) (p : List Pr) : Bool :=
  if 4000 < l.length ∨ 800 < p.length then false
  else match (nodesF l l.length 0 [] 24000).bind fun x => procsF l p x.1 x.2 with
    | none => false
    | some used => (List.range l.length).all fun x => decide (used.count (x : Int) = 1)

set_option maxHeartbeats 2000000 in
theorem l5many_any (k : Int) (w : World) : Calls Try.prog 54 #[.int .i64 k] w fun e w' => e = .returned (.tuple #[.int .i64 (manyI k).1, .int .i64 (manyI k).2]) ∧ w' = w := by
  by_cases h0 : k = 0
  · subst h0; go_enter Try.func54, Try.ntmps54; go_wp2; go_ret2; exact ⟨rfl, rfl⟩
  by_cases h1 : k = 1
  · subst h1; go_enter Try.func54, Try.ntmps54; go_wp2; go_ret2; exact ⟨rfl, rfl⟩
  by_cases h25 : k = 25
  · subst h25; go_enter Try.func54, Try.ntmps54; go_wp2; go_ret2; exact ⟨rfl, rfl⟩
  by_cases h2 : k = 2
  · subst h2; go_enter Try.func54, Try.ntmps54; go_wp2; go_ret2; exact ⟨rfl, rfl⟩
  by_cases h20 : k = 20
  · subst h20; go_enter Try.func54, Try.ntmps54; go_wp2; go_ret2; exact ⟨rfl, rfl⟩
  by_cases h21 : k = 21
  · subst h21; go_enter Try.func54, Try.ntmps54; go_wp2; go_ret2; exact ⟨rfl, rfl⟩
  by_cases h24 : k = 24
  · subst h24; go_enter Try.func54, Try.ntmps54; go_wp2; go_ret2; exact ⟨rfl, rfl⟩
  by_cases h26 : k = 26
  · subst h26; go_enter Try.func54, Try.ntmps54; go_wp2; go_ret2; exact ⟨rfl, rfl⟩
  by_cases h23 : k = 23
  · subst h23; go_enter Try.func54, Try.ntmps54; go_wp2; go_ret2; exact ⟨rfl, rfl⟩
  by_cases h27 : k = 27
  · subst h27; go_enter Try.func54, Try.ntmps54; go_wp2; go_ret2; exact ⟨rfl, rfl⟩
  by_cases h22 : k = 22
  · subst h22; go_enter Try.func54, Try.ntmps54; go_wp2; go_ret2; exact ⟨rfl, rfl⟩
  by_cases h3 : 3 ≤ k
  · by_cases h9 : k ≤ 9
    · have hm : manyI k = (2, 2) := by rw [manyI, if_neg (by omega), if_neg (by omega), if_neg h23, if_neg h27, if_pos (by omega)]
      rw [hm]
      go_enter Try.func54, Try.ntmps54
      go_wp2
      go_ret2
      exact ⟨rfl, rfl⟩
    · have hm : manyI k = (-1, -1) := by rw [manyI, if_neg (by omega), if_neg (by omega), if_neg h23, if_neg h27, if_neg (by omega)]
      rw [hm]
      go_enter Try.func54, Try.ntmps54
      go_wp2
      go_ret2
      exact ⟨rfl, rfl⟩
  · have hm : manyI k = (-1, -1) := by rw [manyI, if_neg (by omega), if_neg (by omega), if_neg h23, if_neg h27, if_neg (by omega)]
    rw [hm]
    go_enter Try.func54, Try.ntmps54
    go_wp2
    go_ret2
    exact ⟨rfl, rfl⟩

theorem l5sort_any (k : Int) (w : World) : Calls Try.prog 55 #[.int .i64 k] w fun e w' => e = .returned (.int .i64 (sortI k)) ∧ w' = w := by
  by_cases h27 : k = 27
  · subst h27
    go_enter Try.func55, Try.ntmps55
    go_wp2
    go_ret
    exact ⟨rfl, rfl⟩
  by_cases h20 : 20 ≤ k
  · have e : sortI k = 1 := by rw [sortI, if_neg h27, if_pos h20]
    rw [e]
    go_enter Try.func55, Try.ntmps55
    go_wp2
    go_ret
    exact ⟨rfl, rfl⟩
  · have e : sortI k = 0 := by rw [sortI, if_neg h27, if_neg h20]
    rw [e]
    go_enter Try.func55, Try.ntmps55
    go_wp2
    go_ret
    exact ⟨rfl, rfl⟩

theorem l5kid_any (k : Int) (j : Nat) (w : World) : Calls Try.prog 56 #[.int .i64 k, .int .i64 (j : Int)] w fun e w' => e = .returned (.int .i64 (kidI k j)) ∧ w' = w := by
  by_cases h27 : k = 27
  · subst h27
    go_enter Try.func56, Try.ntmps56
    go_wp2
    go_ret
    exact ⟨rfl, rfl⟩
  by_cases h24 : k = 24
  · subst h24
    go_enter Try.func56, Try.ntmps56
    go_wp2
    go_ret
    exact ⟨rfl, rfl⟩
  by_cases h23 : k = 23
  · subst h23
    by_cases hj : 0 < j
    · have e : kidI 23 j = 2 := by rw [kidI, if_neg (by decide), if_neg (by decide), if_pos ⟨rfl, hj⟩]
      have hj' : (0 : Int) < (j : Int) := by omega
      rw [e]
      go_enter Try.func56, Try.ntmps56
      go_wp2
      go_ret
      exact ⟨rfl, rfl⟩
    · have e : kidI 23 j = 0 := by rw [kidI, if_neg (by decide), if_neg (by decide), if_neg (fun h => hj h.2)]
      have hj' : ¬ (0 : Int) < (j : Int) := by omega
      rw [e]
      go_enter Try.func56, Try.ntmps56
      go_wp2
      go_ret
      exact ⟨rfl, rfl⟩
  · have e : kidI k j = 0 := by rw [kidI, if_neg h27, if_neg h24, if_neg (fun h => h23 h.1)]
    rw [e]
    go_enter Try.func56, Try.ntmps56
    go_wp2
    go_ret
    exact ⟨rfl, rfl⟩

end Go.Proofs.Ytjikmpdgednlaaa
