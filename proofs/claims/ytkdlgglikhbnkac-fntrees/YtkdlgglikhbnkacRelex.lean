/- Words are read again from their texts with blanks between: the function's side. -/
import Derived.Test.YtkdlgglikhbnkacLexT
import Derived.Test.YtkdlgglikhbnkacLex8
namespace Go.Proofs.Ytkdlgglikhbnkac
open Go.ChangeShapes Go.WideShapes Go.ChangeAt Go.RowKit
set_option linter.unusedVariables false
set_option maxRecDepth 100000

/-- A number in decimal. -/
def decL (n : Nat) : List UInt8 := if h : n < 10 then [UInt8.ofNat (48 + n)] else decL (n / 10) ++ [UInt8.ofNat (48 + n % 10)]
termination_by n
decreasing_by exact Nat.div_lt_self (by omega) (by omega)
theorem decL_lt {n : Nat} (h : n < 10) : decL n = [UInt8.ofNat (48 + n)] := by rw [decL, dif_pos h]
theorem decL_ge {n : Nat} (h : ¬ n < 10) : decL n = decL (n / 10) ++ [UInt8.ofNat (48 + n % 10)] := by rw [decL, dif_neg h]
theorem digit_nat {d : Nat} (h : d < 10) : (UInt8.ofNat (48 + d)).toNat = 48 + d := by
  rw [UInt8.toNat_ofNat']
  omega

def digU (b : UInt8) : Prop := 48 ≤ b.toNat ∧ b.toNat ≤ 57
theorem decL_dig (n : Nat) : (∀ b ∈ decL n, digU b) ∧ decL n ≠ [] := by
  by_cases h : n < 10
  · rw [decL_lt h]
    refine ⟨fun b hb => ?_, by simp⟩
    rw [List.mem_singleton] at hb
    subst hb
    unfold digU
    rw [digit_nat h]
    omega
  · rw [decL_ge h]
    have ih := decL_dig (n / 10)
    refine ⟨fun b hb => ?_, by simp⟩
    rw [List.mem_append, List.mem_singleton] at hb
    rcases hb with hb | hb
    · exact ih.1 b hb
    · subst hb
      unfold digU
      rw [digit_nat (by omega)]
      omega
termination_by n
decreasing_by exact Nat.div_lt_self (by omega) (by omega)
theorem decL_len : ∀ (k n : Nat), 0 < k → n < 10 ^ k → (decL n).length ≤ k
  | 0, n, h, _ => by omega
  | k + 1, n, _, hn => by
    by_cases h : n < 10
    · rw [decL_lt h]; simp
    · rw [decL_ge h, List.length_append]
      have hk : 0 < k := by
        rcases Nat.eq_zero_or_pos k with e | e
        · subst e; simp at hn; omega
        · exact e
      have := decL_len k (n / 10) hk (by rw [Nat.pow_succ] at hn; omega)
      simp
      omega

/-- The number that digits make. -/
def numL (l : List UInt8) : Int := l.foldl (fun a b => a * 10 + ((b.toNat : Int) - 48)) 0
theorem numL_snoc (l : List UInt8) (b : UInt8) : numL (l ++ [b]) = numL l * 10 + ((b.toNat : Int) - 48) := by simp [numL]
theorem numL_dec (n : Nat) : numL (decL n) = (n : Int) := by
  by_cases h : n < 10
  · rw [decL_lt h]
    show (0 : Int) * 10 + (((UInt8.ofNat (48 + n)).toNat : Int) - 48) = _
    rw [digit_nat h]
    omega
  · rw [decL_ge h, numL_snoc, numL_dec (n / 10), digit_nat (by omega)]
    omega
termination_by n
decreasing_by exact Nat.div_lt_self (by omega) (by omega)

theorem numAt_numL (s : ByteArray) (i : Nat) : ∀ n, i + n ≤ s.size → numAt s i n = numL ((s.data.toList.drop i).take n)
  | 0, _ => by simp [numAt, numL]
  | n + 1, h => by
    have hl : i + n < s.data.toList.length := h
    have e : (s.data.toList.drop i).take (n + 1) = (s.data.toList.drop i).take n ++ [s.data.toList.getD (i + n) 0] := by
      rw [List.take_add_one, List.getElem?_drop, List.getElem?_eq_getElem hl]
      simp [List.getD, List.getElem?_eq_getElem hl]
    rw [e, numL_snoc, ← numAt_numL s i n (by omega)]
    rfl

/-- What a word is. -/
def Good (t : Tk) : Prop :=
  (t.k = 1 ∧ t.s = empS ∧ 0 ≤ t.n ∧ t.n < 1000000000) ∨
  (t.k = (if wordB t.s.toList = true then 3 else 2) ∧ t.n = 0 ∧ 0 < t.s.size ∧ t.s.size ≤ 20 ∧ letB (bAt t.s 0) = true ∧ ∀ j, j < t.s.size → inB (bAt t.s j) = true) ∨
  (t.k = 4 ∧ t.s.size = 1 ∧ tabB' (bAt t.s 0) = true ∧ t.n = bAt t.s 0 - 65) ∨
  (t.k = 5 ∧ t.n = 0 ∧ ((t.s.size = 2 ∧ bAt t.s 0 = 61 ∧ bAt t.s 1 = 61) ∨ (t.s.size = 1 ∧ signB (bAt t.s 0) = true)))

def ttx (t : Tk) : List UInt8 := if t.k = 1 then decL t.n.toNat else t.s.data.toList
def joinL (l : List Tk) : List UInt8 := l.flatMap fun t => ttx t ++ [32]
theorem joinL_snoc (l : List Tk) (t : Tk) : joinL (l ++ [t]) = joinL l ++ (ttx t ++ [32]) := by simp [joinL]
theorem joinL_cons (t : Tk) (l : List Tk) : joinL (t :: l) = ttx t ++ [32] ++ joinL l := by simp [joinL]

theorem let_in {b : Int} (h : letB b = true) : inB b = true := by simp [inB, h]
theorem let_dig {b : Int} (h : letB b = true) : digB b = false := by
  simp only [letB, decide_eq_true_eq] at h
  simp only [digB, decide_eq_false_iff_not]
  omega

theorem lexAt_good {s : ByteArray} {i e : Nat} {t : Tk} (hi : i < s.size) (h : lexAt s i = some (t, e)) : Good t ∧ t.p = i ∧ (ttx t).length + 1 ≤ 2 * (e - i) := by
  obtain ⟨hie, hes⟩ := lexAt_bounds hi h
  unfold lexAt at h
  by_cases hd : digB (bAt s i) = true
  · rw [if_pos hd] at h
    have hge := runTo_ge digB s (i + 1)
    have hall : ∀ j, i ≤ j → j < runTo digB s (i + 1) → digB (bAt s j) = true := fun j h1 h2 => by
      by_cases ej : j = i
      · rw [ej]; exact hd
      · exact runTo_all digB s (i + 1) j (by omega) h2
    generalize runTo digB s (i + 1) = r at h hge hall
    by_cases h9 : 9 < r - i
    · rw [if_pos h9] at h; cases h
    · rw [if_neg h9] at h
      injection h with h
      injection h with h1 h2
      subst h2
      have hb := numAt_le (s := s) (i := i) (n := r - i) (by omega) (fun j hj => hall (i + j) (by omega) (by omega))
      have hb2 := numAt_bound (s := s) (i := i) (n := r - i) (fun j hj => hall (i + j) (by omega) (by omega))
      subst h1
      refine ⟨.inl ⟨rfl, rfl, hb.1, hb.2⟩, rfl, ?_⟩
      show (if (1 : Int) = 1 then decL (numAt s i (r - i)).toNat else _).length + 1 ≤ _
      rw [if_pos rfl]
      have := decL_len (r - i) (numAt s i (r - i)).toNat (by omega) (by
        have e : ((10 ^ (r - i) : Nat) : Int) = (10 : Int) ^ (r - i) := by simp
        omega)
      omega
  rw [if_neg hd] at h
  by_cases hl : letB (bAt s i) = true
  · rw [if_pos hl] at h
    have hge := runTo_ge inB s (i + 1)
    have hle := runTo_le inB s (i + 1) (by omega)
    have hall : ∀ j, i ≤ j → j < runTo inB s (i + 1) → inB (bAt s j) = true := fun j h1 h2 => by
      by_cases ej : j = i
      · rw [ej]; exact let_in hl
      · exact runTo_all inB s (i + 1) j (by omega) h2
    generalize runTo inB s (i + 1) = r at h hge hle hall
    by_cases h9 : 20 < r - i
    · rw [if_pos h9] at h; cases h
    · rw [if_neg h9] at h
      injection h with h
      injection h with h1 h2
      subst h2
      have hz := extract_size (s := s) (i := i) (j := r) (by omega) (by omega)
      subst h1
      refine ⟨.inr (.inl ⟨rfl, rfl, by show 0 < (s.extract i r).size; omega, by show (s.extract i r).size ≤ 20; omega, ?_, fun j hj => ?_⟩), rfl, ?_⟩
      · show letB (bAt (s.extract i r) 0) = true
        rw [extract_at (by omega) (by omega) (by omega)]
        exact hl
      · have hj' : j < r - i := by rw [← hz]; exact hj
        show inB (bAt (s.extract i r) j) = true
        rw [extract_at (by omega) (by omega) (by omega)]
        exact hall _ (by omega) (by omega)
      · have : (ttx ⟨if wordB (s.extract i r).toList = true then 3 else 2, s.extract i r, 0, i⟩).length = r - i := by
          rw [ttx, if_neg]
          · exact hz
          · show ¬ (if wordB (s.extract i r).toList = true then (3 : Int) else 2) = 1
            split <;> omega
        omega
  rw [if_neg hl] at h
  have hz1 := extract_size (s := s) (i := i) (j := i + 1) (by omega) (by omega)
  by_cases ht : tabB' (bAt s i) = true
  · rw [if_pos ht] at h
    injection h with h
    injection h with h1 h2
    subst h2
    subst h1
    have e0 : bAt (s.extract i (i + 1)) 0 = bAt s i := by rw [extract_at (by omega) (by omega) (by omega)]; rfl
    refine ⟨.inr (.inr (.inl ⟨rfl, by show (s.extract i (i + 1)).size = 1; omega, by show tabB' (bAt (s.extract i (i + 1)) 0) = true; rw [e0]; exact ht, by show bAt s i - 65 = bAt (s.extract i (i + 1)) 0 - 65; rw [e0]⟩)), rfl, ?_⟩
    have : (ttx ⟨4, s.extract i (i + 1), bAt s i - 65, i⟩).length = i + 1 - i := hz1
    omega
  rw [if_neg ht] at h
  by_cases hs : signB (bAt s i) = true
  · rw [if_pos hs] at h
    by_cases h2 : bAt s i = 61 ∧ i + 1 < s.size ∧ bAt s (i + 1) = 61
    · rw [if_pos h2] at h
      injection h with h
      injection h with h1 h3
      subst h3
      subst h1
      have hz2 := extract_size (s := s) (i := i) (j := i + 2) (by omega) (by omega)
      refine ⟨.inr (.inr (.inr ⟨rfl, rfl, .inl ⟨by show (s.extract i (i + 2)).size = 2; omega, ?_, ?_⟩⟩)), rfl, ?_⟩
      · show bAt (s.extract i (i + 2)) 0 = 61
        rw [extract_at (by omega) (by omega) (by omega)]; exact h2.1
      · show bAt (s.extract i (i + 2)) 1 = 61
        rw [extract_at (by omega) (by omega) (by omega)]; exact h2.2.2
      · have : (ttx ⟨5, s.extract i (i + 2), 0, i⟩).length = i + 2 - i := hz2
        omega
    · rw [if_neg h2] at h
      injection h with h
      injection h with h1 h3
      subst h3
      subst h1
      refine ⟨.inr (.inr (.inr ⟨rfl, rfl, .inr ⟨by show (s.extract i (i + 1)).size = 1; omega, ?_⟩⟩)), rfl, ?_⟩
      · show signB (bAt (s.extract i (i + 1)) 0) = true
        rw [extract_at (by omega) (by omega) (by omega)]; exact hs
      · have : (ttx ⟨5, s.extract i (i + 1), 0, i⟩).length = i + 1 - i := hz1
        omega
  · rw [if_neg hs] at h
    cases h

end Go.Proofs.Ytkdlgglikhbnkac
