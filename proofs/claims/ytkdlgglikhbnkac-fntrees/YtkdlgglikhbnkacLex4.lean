/- What cutting a text into words comes to, as a function; and scopes with several labels. -/
import Derived.Test.YtkdlgglikhbnkacLex1
import Derived.Test.YtkdlgglikhbnkacLex3
import Derived.ScopeJumps
namespace Go.Proofs.Ytkdlgglikhbnkac
open Go.ChangeShapes Go.WideShapes Go.ChangeAt Go.RowKit
set_option linter.unusedVariables false
set_option maxRecDepth 100000

structure Tk where
  k : Int
  s : ByteArray
  n : Int
  p : Int

/-- Where the bytes of a kind end that begin at i. -/
def runTo (p : Int → Bool) (s : ByteArray) (i : Nat) : Nat := if h : i < s.size ∧ p (bAt s i) = true then runTo p s (i + 1) else i
termination_by s.size - i

theorem runTo_step {p : Int → Bool} {s : ByteArray} {i : Nat} (h : i < s.size) (h2 : p (bAt s i) = true) : runTo p s i = runTo p s (i + 1) := by
  rw [runTo, dif_pos ⟨h, h2⟩]
theorem runTo_stop {p : Int → Bool} {s : ByteArray} {i : Nat} (h : ¬ (i < s.size ∧ p (bAt s i) = true)) : runTo p s i = i := by
  rw [runTo, dif_neg h]
theorem runTo_ge (p : Int → Bool) (s : ByteArray) (i : Nat) : i ≤ runTo p s i := by
  by_cases h : i < s.size ∧ p (bAt s i) = true
  · rw [runTo_step h.1 h.2]
    have := runTo_ge p s (i + 1)
    omega
  · rw [runTo_stop h]
    exact Nat.le_refl _
termination_by s.size - i
theorem runTo_le (p : Int → Bool) (s : ByteArray) (i : Nat) (hi : i ≤ s.size) : runTo p s i ≤ s.size := by
  by_cases h : i < s.size ∧ p (bAt s i) = true
  · rw [runTo_step h.1 h.2]
    exact runTo_le p s (i + 1) (by omega)
  · rw [runTo_stop h]
    exact hi
termination_by s.size - i
theorem runTo_all (p : Int → Bool) (s : ByteArray) (i : Nat) : ∀ j, i ≤ j → j < runTo p s i → p (bAt s j) = true := by
  intro j hj hlt
  by_cases h : i < s.size ∧ p (bAt s i) = true
  · rw [runTo_step h.1 h.2] at hlt
    by_cases e : j = i
    · subst e; exact h.2
    · exact runTo_all p s (i + 1) j (by omega) hlt
  · rw [runTo_stop h] at hlt
    omega
termination_by s.size - i
theorem runTo_end (p : Int → Bool) (s : ByteArray) (i : Nat) (h : runTo p s i < s.size) : p (bAt s (runTo p s i)) = false := by
  by_cases h2 : i < s.size ∧ p (bAt s i) = true
  · rw [runTo_step h2.1 h2.2] at h ⊢
    exact runTo_end p s (i + 1) h
  · rw [runTo_stop h2] at h ⊢
    cases h3 : p (bAt s i)
    · rfl
    · exact absurd ⟨h, h3⟩ h2
termination_by s.size - i
theorem runTo_eq {p : Int → Bool} {s : ByteArray} {i e : Nat} (hie : i ≤ e) (hall : ∀ j, i ≤ j → j < e → p (bAt s j) = true) (hes : e ≤ s.size) : runTo p s i = runTo p s e := by
  obtain ⟨d, rfl⟩ : ∃ d, e = i + d := ⟨e - i, by omega⟩
  clear hie
  induction d with
  | zero => rfl
  | succ d ih =>
    rw [ih (fun j h1 h2 => hall j h1 (by omega)) (by omega), runTo_step (by omega) (hall (i + d) (by omega) (by omega))]
    rfl

def tabB' (b : Int) : Bool := decide (65 ≤ b ∧ b ≤ 68)
theorem tabB'_iff (b : Int) : tabB' b = true ↔ 65 ≤ b ∧ b ≤ 68 := by simp [tabB']
def empS : ByteArray := ⟨#[]⟩
/-- The word that begins at i, and where it ends. -/
def lexAt (s : ByteArray) (i : Nat) : Option (Tk × Nat) :=
  if digB (bAt s i) = true then
    if 9 < runTo digB s (i + 1) - i then none else some (⟨1, empS, numAt s i (runTo digB s (i + 1) - i), i⟩, runTo digB s (i + 1))
  else if letB (bAt s i) = true then
    if 20 < runTo inB s (i + 1) - i then none else some (⟨if wordB (s.extract i (runTo inB s (i + 1))).toList = true then 3 else 2, s.extract i (runTo inB s (i + 1)), 0, i⟩, runTo inB s (i + 1))
  else if tabB' (bAt s i) = true then some (⟨4, s.extract i (i + 1), bAt s i - 65, i⟩, i + 1)
  else if signB (bAt s i) = true then
    if bAt s i = 61 ∧ i + 1 < s.size ∧ bAt s (i + 1) = 61 then some (⟨5, s.extract i (i + 2), 0, i⟩, i + 2) else some (⟨5, s.extract i (i + 1), 0, i⟩, i + 1)
  else none

/-- The words from i on, behind those that there are; and the place. -/
def lexGo (s : ByteArray) (i : Nat) (acc : List Tk) : List Tk × Int :=
  if h : i < s.size then
    if whiteB (bAt s i) = true then lexGo s (i + 1) acc
    else match lexAt s i with
      | none => ([], i)
      | some (t, e) => if i < e then lexGo s e (acc ++ [t]) else ([], i)
  else (acc, -1)
termination_by s.size - i
def lexF (s : ByteArray) : List Tk × Int := if 6000 < s.size then ([], 0) else lexGo s 0 []

theorem lexGo_end {s : ByteArray} {i : Nat} {acc : List Tk} (h : ¬ i < s.size) : lexGo s i acc = (acc, -1) := by rw [lexGo, dif_neg h]
theorem lexGo_white {s : ByteArray} {i : Nat} {acc : List Tk} (h : i < s.size) (hw : whiteB (bAt s i) = true) : lexGo s i acc = lexGo s (i + 1) acc := by rw [lexGo, dif_pos h, if_pos hw]
theorem lexGo_none {s : ByteArray} {i : Nat} {acc : List Tk} (h : i < s.size) (hw : whiteB (bAt s i) = false) (hn : lexAt s i = none) : lexGo s i acc = ([], (i : Int)) := by
  rw [lexGo, dif_pos h, if_neg (by simp [hw])]
  split
  · rfl
  · next t e he => rw [hn] at he; cases he
theorem lexGo_some {s : ByteArray} {i e : Nat} {t : Tk} {acc : List Tk} (h : i < s.size) (hw : whiteB (bAt s i) = false) (hn : lexAt s i = some (t, e)) (hie : i < e) : lexGo s i acc = lexGo s e (acc ++ [t]) := by
  rw [lexGo, dif_pos h, if_neg (by simp [hw])]
  split
  · next he => rw [hn] at he; cases he
  · next t' e' he => rw [hn] at he; cases he; rw [if_pos hie]

theorem tOf_piece {s : ByteArray} {i : Nat} (hi : i < s.size) : tOf (s.extract i (i + 1)).toList = if tabB' (bAt s i) = true then bAt s i - 65 else -1 := by
  have hl : i < s.data.toList.length := hi
  have e : (s.extract i (i + 1)).toList = [s.data.toList.getD i 0] := by
    rw [ByteArray.toList_eq, extract_list (by omega) (by omega), Nat.add_sub_cancel_left, List.take_one]
    simp [List.getD, List.getElem?_eq_getElem hl]
  rw [e]
  by_cases h : tabB' (bAt s i) = true
  · rw [if_pos h]
    rw [tabB'_iff] at h
    unfold bAt at h
    rw [tOf_one (by omega) (by omega)]
    rfl
  · rw [if_neg h]
    rw [tabB'_iff] at h
    unfold bAt at h
    exact tOf_other (by omega)

/-! ### A scope in which the run jumps to several labels -/

/-- By a goto to a label: J of it; else Q. -/
def jumps (n : Nat) (J : Nat → Act → World → Prop) (Q : Exit → Act → World → Prop) : Exit → Act → World → Prop
  | .goto l, a, w => l < n ∧ J l a w
  | e, a, w => Q e a w

theorem wp_scope_many {P : Program} {a : Act} {w : World} {Q : Exit → Act → World → Prop} {c : Code} (n : Nat) (rest : Nat → Code) (J : Nat → Act → World → Prop) (μ : Nat → Act → World → Nat) (hf : ∀ l, l < n → findLabel c l = some (rest l))
    (first : c.wp P (jumps n J Q) a w)
    (pass : ∀ l, l < n → ∀ a w, J l a w → (rest l).wp P (jumps n (fun l' a' w' => J l' a' w' ∧ μ l' a' w' < μ l a w) Q) a w) : (Code.scope c).wp P Q a w := by
  intro b k cs
  have hg : ∀ l, l < n → gotoIn l (.inScope c :: k) = some (.code (rest l) :: .inScope c :: k) := fun l hl => by simp [gotoIn, hf l hl]
  have key : ∀ m l a w, l < n → μ l a w = m → J l a w → ∃ e a' w', Q e a' w' ∧ Arrives P (lone (b.at a (.code (rest l) :: .inScope c :: k)) cs w) b k cs e a' w' := by
    intro m
    induction m using Nat.strongRecOn with
    | _ m ih =>
      intro l a w hl hn hJ
      obtain ⟨e, a₁, w₁, hq, harr⟩ := pass l hl a w hJ b (.inScope c :: k) cs
      cases e with
      | normal => exact ⟨.normal, a₁, w₁, hq, Steps.trans harr (.one step_inScope)⟩
      | exit id => exact ⟨.exit id, a₁, w₁, hq, fun k' hk => harr k' (by simp [exitTo, hk])⟩
      | goto l' =>
        obtain ⟨hl', hJ', hlt⟩ := hq
        obtain ⟨e₂, a₂, w₂, hq₂, harr₂⟩ := ih _ (by omega) l' a₁ w₁ hl' rfl hJ'
        exact ⟨e₂, a₂, w₂, hq₂, .of_steps (harr _ (hg l' hl')) harr₂⟩
      | ret => exact ⟨_, a₁, w₁, hq, harr⟩
      | panic ch => exact ⟨_, a₁, w₁, hq, harr⟩
      | outgrown => exact ⟨_, a₁, w₁, hq, harr⟩
  obtain ⟨e, a₁, w₁, hq, harr⟩ := first b (.inScope c :: k) cs
  cases e with
  | normal => exact ⟨.normal, a₁, w₁, hq, .head step_scope (Steps.trans harr (.one step_inScope))⟩
  | exit id => exact ⟨.exit id, a₁, w₁, hq, fun k' hk => .head step_scope (harr k' (by simp [exitTo, hk]))⟩
  | goto l' =>
    obtain ⟨hl', hJ'⟩ := hq
    obtain ⟨e₂, a₂, w₂, hq₂, harr₂⟩ := key _ l' a₁ w₁ hl' rfl hJ'
    exact ⟨e₂, a₂, w₂, hq₂, .of_steps (.head step_scope (harr _ (hg l' hl'))) harr₂⟩
  | ret => exact ⟨_, a₁, w₁, hq, .of_steps (.one step_scope) harr⟩
  | panic ch => exact ⟨_, a₁, w₁, hq, .of_steps (.one step_scope) harr⟩
  | outgrown => exact ⟨_, a₁, w₁, hq, .of_steps (.one step_scope) harr⟩

theorem wp_weaken {P : Program} {a : Act} {w : World} {Q Q' : Exit → Act → World → Prop} {c : Code} (h : ∀ e a w, Q e a w → Q' e a w) (hc : c.wp P Q a w) : c.wp P Q' a w := by
  intro b k cs
  obtain ⟨e, a1, w1, hq, harr⟩ := hc b k cs
  exact ⟨e, a1, w1, h _ _ _ hq, harr⟩

/-- The same, for five labels. -/
theorem wp_scope5 {P : Program} {a : Act} {w : World} {Q : Exit → Act → World → Prop} {c r0 r1 r2 r3 r4 : Code} (J : Nat → Act → World → Prop) (μ : Nat → Act → World → Nat)
    (h0 : findLabel c 0 = some (Code.skip.seq r0)) (h1 : findLabel c 1 = some r1) (h2 : findLabel c 2 = some r2) (h3 : findLabel c 3 = some r3) (h4 : findLabel c 4 = some r4)
    (first : (∀ a w, J 0 a w → r0.wp P (jumps 5 J Q) a w) → c.wp P (jumps 5 J Q) a w)
    (p0 : ∀ a w, J 0 a w → r0.wp P (jumps 5 (fun l' a' w' => J l' a' w' ∧ μ l' a' w' < μ 0 a w) Q) a w)
    (p1 : ∀ a w, J 1 a w → r1.wp P (jumps 5 (fun l' a' w' => J l' a' w' ∧ μ l' a' w' < μ 1 a w) Q) a w)
    (p2 : ∀ a w, J 2 a w → r2.wp P (jumps 5 (fun l' a' w' => J l' a' w' ∧ μ l' a' w' < μ 2 a w) Q) a w)
    (p3 : ∀ a w, J 3 a w → r3.wp P (jumps 5 (fun l' a' w' => J l' a' w' ∧ μ l' a' w' < μ 3 a w) Q) a w)
    (p4 : ∀ a w, J 4 a w → r4.wp P (jumps 5 (fun l' a' w' => J l' a' w' ∧ μ l' a' w' < μ 4 a w) Q) a w) : (Code.scope c).wp P Q a w := by
  refine wp_scope_many 5 (fun l => if l = 0 then Code.skip.seq r0 else if l = 1 then r1 else if l = 2 then r2 else if l = 3 then r3 else r4) J μ ?_ (first fun a w h => wp_weaken (fun e a w hq => by
    cases e <;> first | exact hq | exact ⟨hq.1, hq.2.1⟩) (p0 a w h)) ?_
  · intro l hl
    have : l = 0 ∨ l = 1 ∨ l = 2 ∨ l = 3 ∨ l = 4 := by omega
    rcases this with rfl | rfl | rfl | rfl | rfl <;> simpa
  · intro l hl
    have : l = 0 ∨ l = 1 ∨ l = 2 ∨ l = 3 ∨ l = 4 := by omega
    rcases this with rfl | rfl | rfl | rfl | rfl
    · intro a w h
      exact wp_seq (wp_skip (p0 a w h))
    · simpa using p1
    · simpa using p2
    · simpa using p3
    · simpa using p4

end Go.Proofs.Ytkdlgglikhbnkac
