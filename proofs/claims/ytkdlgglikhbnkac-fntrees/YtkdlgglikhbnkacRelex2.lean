/- Words are read again from their texts with blanks between. -/
import Derived.Test.YtkdlgglikhbnkacRelex
namespace Go.Proofs.Ytkdlgglikhbnkac
open Go.ChangeShapes Go.WideShapes Go.ChangeAt Go.RowKit
set_option linter.unusedVariables false
set_option maxRecDepth 100000

theorem tkAt_lt {l : List Tk} {i : Nat} (h : i < l.length) : tkAt l i = l[i] := by simp [tkAt, h]
theorem tkAt_snoc_lt (l : List Tk) (t : Tk) {i : Nat} (h : i < l.length) : tkAt (l ++ [t]) i = tkAt l i := by simp [tkAt, List.getElem?_append_left h]
theorem tkAt_snoc_eq (l : List Tk) (t : Tk) : tkAt (l ++ [t]) l.length = t := by simp [tkAt]

/-- What holds of the words that end ahead of i. -/
structure Inv (acc : List Tk) (i : Nat) : Prop where
  good : ∀ j, j < acc.length → Good (tkAt acc j)
  low : ∀ j, j < acc.length → (tkAt acc j).p < (i : Int)
  asc : ∀ j, j + 1 < acc.length → (tkAt acc j).p < (tkAt acc (j + 1)).p
  len : (joinL acc).length ≤ 2 * i

theorem Inv.nil (i : Nat) : Inv [] i := ⟨fun j h => absurd h (Nat.not_lt_zero _), fun j h => absurd h (Nat.not_lt_zero _), fun j h => absurd h (Nat.not_lt_zero _), Nat.zero_le _⟩
theorem Inv.white {acc : List Tk} {i : Nat} (h : Inv acc i) : Inv acc (i + 1) := ⟨h.good, fun j hj => by have := h.low j hj; omega, h.asc, by have := h.len; omega⟩
theorem Inv.snoc {s : ByteArray} {acc : List Tk} {i e : Nat} {t : Tk} (h : Inv acc i) (hi : i < s.size) (hat : lexAt s i = some (t, e)) : Inv (acc ++ [t]) e := by
  obtain ⟨g1, g2, g3⟩ := lexAt_good hi hat
  obtain ⟨hie, _⟩ := lexAt_bounds hi hat
  refine ⟨fun j hj => ?_, fun j hj => ?_, fun j hj => ?_, ?_⟩
  · rw [List.length_append, List.length_singleton] at hj
    by_cases ej : j < acc.length
    · rw [tkAt_snoc_lt _ _ ej]; exact h.good j ej
    · obtain rfl : j = acc.length := by omega
      rw [tkAt_snoc_eq]; exact g1
  · rw [List.length_append, List.length_singleton] at hj
    by_cases ej : j < acc.length
    · rw [tkAt_snoc_lt _ _ ej]; have := h.low j ej; omega
    · obtain rfl : j = acc.length := by omega
      rw [tkAt_snoc_eq, g2]; omega
  · rw [List.length_append, List.length_singleton] at hj
    by_cases ej : j + 1 < acc.length
    · rw [tkAt_snoc_lt _ _ ej, tkAt_snoc_lt _ _ (by omega)]; exact h.asc j ej
    · have e1 : j + 1 = acc.length := by omega
      rw [tkAt_snoc_lt _ _ (by omega), e1, tkAt_snoc_eq, g2]
      exact h.low j (by omega)
  · rw [joinL_snoc, List.length_append, List.length_append, List.length_singleton]
    have := h.len
    omega

theorem lexGo_inv (s : ByteArray) (i : Nat) (acc : List Tk) (hi : i ≤ s.size) (h : Inv acc i) : Inv (lexGo s i acc).1 s.size ∧ ((lexGo s i acc).2 = -1 ∨ 0 ≤ (lexGo s i acc).2 ∧ (lexGo s i acc).1 = []) := by
  by_cases hlt : i < s.size
  · by_cases hw : whiteB (bAt s i) = true
    · rw [lexGo_white hlt hw]
      exact lexGo_inv s (i + 1) acc (by omega) h.white
    · rw [Bool.not_eq_true] at hw
      cases hat : lexAt s i with
      | none =>
        rw [lexGo_none hlt hw hat]
        exact ⟨Inv.nil _, .inr ⟨by show (0 : Int) ≤ (i : Int); omega, rfl⟩⟩
      | some x =>
        obtain ⟨t, e⟩ := x
        obtain ⟨h1, h2⟩ := lexAt_bounds hlt hat
        rw [lexGo_some hlt hw hat h1]
        exact lexGo_inv s e (acc ++ [t]) h2 (h.snoc hlt hat)
  · rw [lexGo_end hlt]
    obtain rfl : i = s.size := by omega
    exact ⟨h, .inl rfl⟩
termination_by s.size - i

/-- The same word, wherever it stands. -/
def Same (a b : Tk) : Prop := a.k = b.k ∧ a.s = b.s ∧ a.n = b.n

/-- The bytes of x lie in T from i on. -/
def Lies (T : ByteArray) (i : Nat) (x : List UInt8) : Prop := i + x.length ≤ T.size ∧ (T.data.toList.drop i).take x.length = x
theorem Lies.at {T : ByteArray} {i : Nat} {x : List UInt8} (h : Lies T i x) {j : Nat} (hj : j < x.length) : bAt T (i + j) = ((x.getD j 0).toNat : Int) := by
  unfold bAt
  have e : T.data.toList.getD (i + j) 0 = x.getD j 0 := by
    have h2 : ((T.data.toList.drop i).take x.length)[j]? = x[j]? := by rw [h.2]
    rw [List.getElem?_take_of_lt hj, List.getElem?_drop] at h2
    simp only [List.getD, h2]
  rw [e]
theorem Lies.piece {T : ByteArray} {i : Nat} {x : List UInt8} (h : Lies T i x) : T.extract i (i + x.length) = ⟨x.toArray⟩ := by
  apply bytes_ext
  rw [ByteArray.toList_eq, ByteArray.toList_eq, extract_list (by omega) h.1, Nat.add_sub_cancel_left, h.2]

theorem bAt_data (s : ByteArray) (j : Nat) : bAt s j = ((s.data.toList.getD j 0).toNat : Int) := rfl
theorem mk_data (s : ByteArray) : (⟨s.data.toList.toArray⟩ : ByteArray) = s := by
  obtain ⟨⟨l⟩⟩ := s
  rfl

/-- A good word's text, with a blank behind it, is read as that word. -/
theorem relex_one {T : ByteArray} {i : Nat} {t : Tk} (hg : Good t) (hL : Lies T i (ttx t ++ [32])) :
    ∃ t', lexAt T i = some (t', i + (ttx t).length) ∧ Same t' t ∧ 0 < (ttx t).length ∧ whiteB (bAt T i) = false := by
  have hsz : i + (ttx t).length < T.size := by have := hL.1; rw [List.length_append, List.length_singleton] at this; omega
  have hX : Lies T i (ttx t) := by
    refine ⟨by omega, ?_⟩
    have h2 := hL.2
    rw [List.length_append, List.length_singleton] at h2
    have h3 : ((T.data.toList.drop i).take ((ttx t).length + 1)).take (ttx t).length = (ttx t ++ [32]).take (ttx t).length := by rw [h2]
    rw [List.take_take, Nat.min_eq_left (by omega), List.take_left'] at h3
    · exact h3
    · rfl
  have hB : bAt T (i + (ttx t).length) = 32 := by
    rw [hL.at (by simp)]
    simp
  have hat : ∀ j, j < (ttx t).length → bAt T (i + j) = (((ttx t).getD j 0).toNat : Int) := fun j hj => hX.at hj
  rcases hg with ⟨h1, h2, h3, h4⟩ | ⟨h1, h2, h3, h4, h5, h6⟩ | ⟨h1, h2, h3, h4⟩ | ⟨h1, h2, h3⟩
  · have ex : ttx t = decL t.n.toNat := by rw [ttx, if_pos h1]
    obtain ⟨d1, d2⟩ := decL_dig t.n.toNat
    rw [← ex] at d1 d2
    have hpos : 0 < (ttx t).length := List.length_pos_iff.2 d2
    have hall : ∀ j, i ≤ j → j < i + (ttx t).length → digB (bAt T j) = true := fun j a b => by
      obtain ⟨d, rfl⟩ : ∃ d, j = i + d := ⟨j - i, by omega⟩
      have hd : d < (ttx t).length := by omega
      rw [hat d hd]
      have hm : (ttx t).getD d 0 ∈ ttx t := by
        simp only [List.getD, List.getElem?_eq_getElem hd, Option.getD_some]
        exact List.getElem_mem hd
      have := d1 _ hm
      unfold digU at this
      simp only [digB, decide_eq_true_eq]
      omega
    have hw : whiteB (bAt T i) = false := by
      have := hall i (Nat.le_refl _) (by omega)
      simp only [digB, decide_eq_true_eq] at this
      simp only [whiteB, decide_eq_false_iff_not]
      omega
    have hl := lexAt_num (s := T) (i := i) (e := i + (ttx t).length) (by omega) (by omega) hall (by rw [hB]; rintro ⟨_, h⟩; simp [digB] at h)
    have e9 : (10 : Nat) ^ 9 = 1000000000 := by decide
    have hlen : (ttx t).length ≤ 9 := by rw [ex]; exact decL_len 9 _ (by omega) (by omega)
    rw [if_neg (by omega)] at hl
    refine ⟨_, hl, ⟨h1.symm, h2.symm, ?_⟩, hpos, hw⟩
    show numAt T i (i + (ttx t).length - i) = t.n
    rw [Nat.add_sub_cancel_left, numAt_numL _ _ _ (by omega), hX.2, ex, numL_dec]
    omega
  · have hk : ¬ t.k = 1 := by rw [h1]; split <;> omega
    have ex : ttx t = t.s.data.toList := by rw [ttx, if_neg hk]
    have hlen : (ttx t).length = t.s.size := by rw [ex]; rfl
    have hb : ∀ j, j < t.s.size → bAt T (i + j) = bAt t.s j := fun j hj => by rw [hat j (by omega), ex]; rfl
    have b0 : bAt T i = bAt t.s 0 := hb 0 h3
    have hlT : letB (bAt T i) = true := by rw [b0]; exact h5
    have hw : whiteB (bAt T i) = false := by
      have := hlT
      simp only [letB, decide_eq_true_eq] at this
      simp only [whiteB, decide_eq_false_iff_not]
      omega
    have hl := lexAt_name (s := T) (i := i) (e := i + (ttx t).length) (by omega) (by omega) (let_dig hlT) hlT (fun j a b => by
      obtain ⟨d, rfl⟩ : ∃ d, j = i + d := ⟨j - i, by omega⟩
      rw [hb d (by omega)]
      exact h6 d (by omega)) (by rw [hB]; rintro ⟨_, h⟩; simp [inB, letB, digB] at h)
    rw [if_neg (by omega)] at hl
    have es : T.extract i (i + (ttx t).length) = t.s := by rw [hX.piece, ex, mk_data]
    rw [es] at hl
    exact ⟨_, hl, ⟨h1.symm, rfl, h2.symm⟩, by omega, hw⟩
  · have ex : ttx t = t.s.data.toList := by rw [ttx, if_neg (by omega)]
    have hlen : (ttx t).length = t.s.size := by rw [ex]; rfl
    have b0 : bAt T i = bAt t.s 0 := by have := hat 0 (by omega); rw [ex] at this; exact this
    have hT := (tabB'_iff _).1 h3
    rw [← b0] at hT
    have es : T.extract i (i + (ttx t).length) = t.s := by rw [hX.piece, ex, mk_data]
    have hd : digB (bAt T i) = false := by simp only [digB, decide_eq_false_iff_not]; omega
    have hl : letB (bAt T i) = false := by simp only [letB, decide_eq_false_iff_not]; omega
    have hw : whiteB (bAt T i) = false := by simp only [whiteB, decide_eq_false_iff_not]; omega
    refine ⟨⟨4, t.s, bAt T i - 65, i⟩, ?_, ⟨h1.symm, rfl, by rw [h4, b0]⟩, by omega, hw⟩
    rw [lexAt, if_neg (by simp [hd]), if_neg (by simp [hl]), if_pos (by rw [b0]; exact h3)]
    rw [← es, hlen, h2]
  · have ex : ttx t = t.s.data.toList := by rw [ttx, if_neg (by omega)]
    have hlen : (ttx t).length = t.s.size := by rw [ex]; rfl
    have hs0 : 0 < t.s.size := by rcases h3 with h | h <;> omega
    have b0 : bAt T i = bAt t.s 0 := by have := hat 0 (by omega); rw [ex] at this; exact this
    have es : T.extract i (i + (ttx t).length) = t.s := by rw [hX.piece, ex, mk_data]
    have hsg : signB (bAt T i) = true := by
      rw [b0]
      rcases h3 with h | h
      · rw [h.2.1]; decide
      · exact h.2
    have hS : bAt T i = 123 ∨ bAt T i = 125 ∨ bAt T i = 40 ∨ bAt T i = 41 ∨ bAt T i = 91 ∨ bAt T i = 93 ∨ bAt T i = 59 ∨ bAt T i = 44 ∨ bAt T i = 61 ∨ bAt T i = 60 ∨ bAt T i = 43 ∨ bAt T i = 45 ∨ bAt T i = 42 ∨ bAt T i = 47 ∨ bAt T i = 37 := by simpa [signB] using hsg
    have hd : digB (bAt T i) = false := by simp only [digB, decide_eq_false_iff_not]; omega
    have hl : letB (bAt T i) = false := by simp only [letB, decide_eq_false_iff_not]; omega
    have ht : tabB' (bAt T i) = false := by simp only [tabB', decide_eq_false_iff_not]; omega
    have hw : whiteB (bAt T i) = false := by simp only [whiteB, decide_eq_false_iff_not]; omega
    refine ⟨⟨5, t.s, 0, i⟩, ?_, ⟨h1.symm, rfl, h2.symm⟩, by omega, hw⟩
    rw [lexAt, if_neg (by simp [hd]), if_neg (by simp [hl]), if_neg (by simp [ht]), if_pos hsg]
    rcases h3 with ⟨q1, q2, q3⟩ | ⟨q1, q2⟩
    · have b1 : bAt T (i + 1) = 61 := by
        have := hat 1 (by omega)
        rw [ex] at this
        rw [this]
        exact q3
      rw [if_pos ⟨by rw [b0]; exact q2, by omega, b1⟩, ← es, hlen, q1]
    · have b1 : bAt T (i + 1) = 32 := by rw [← hB, hlen, q1]
      rw [if_neg (by rw [b1]; omega), ← es, hlen, q1]

theorem Lies.append {T : ByteArray} {i : Nat} {x y : List UInt8} (h : Lies T i (x ++ y)) : Lies T i x ∧ Lies T (i + x.length) y := by
  obtain ⟨h1, h2⟩ := h
  rw [List.length_append] at h1 h2
  constructor
  · refine ⟨by omega, ?_⟩
    have : ((T.data.toList.drop i).take (x.length + y.length)).take x.length = (x ++ y).take x.length := by rw [h2]
    rwa [List.take_take, Nat.min_eq_left (by omega), List.take_left' rfl] at this
  · refine ⟨by omega, ?_⟩
    have : ((T.data.toList.drop i).take (x.length + y.length)).drop x.length = (x ++ y).drop x.length := by rw [h2]
    rwa [List.drop_take, List.drop_drop, List.drop_left' rfl, Nat.add_sub_cancel_left] at this

theorem relex_all {T : ByteArray} : ∀ (l : List Tk) (i : Nat) (acc : List Tk), (∀ j, j < l.length → Good (tkAt l j)) → Lies T i (joinL l) → i + (joinL l).length = T.size →
    ∃ m : List Tk, lexGo T i acc = (acc ++ m, -1) ∧ m.length = l.length ∧ ∀ j, j < l.length → Same (tkAt m j) (tkAt l j)
  | [], i, acc, _, _, he => ⟨[], by rw [lexGo_end (by simp [joinL] at he; omega), List.append_nil], rfl, fun j h => absurd h (Nat.not_lt_zero _)⟩
  | t :: l, i, acc, hg, hL, he => by
    rw [joinL_cons] at hL he
    obtain ⟨hL1, hL2⟩ := hL.append
    rw [List.length_append] at he
    rw [List.length_append, List.length_singleton] at he hL2
    obtain ⟨t', h1, h2, h3, h4⟩ := relex_one (hg 0 (by simp)) hL1
    have hsz : i + ((ttx t).length + 1) ≤ T.size := by omega
    have hB : bAt T (i + (ttx t).length) = 32 := by
      rw [hL1.at (by simp)]
      simp
    obtain ⟨m, m1, m2, m3⟩ := relex_all l (i + ((ttx t).length + 1)) (acc ++ [t']) (fun j hj => by have := hg (j + 1) (by simpa using hj); simpa [tkAt] using this) hL2 (by omega)
    refine ⟨t' :: m, ?_, by simp [m2], fun j hj => ?_⟩
    · have h1' : lexAt T i = some (t', i + (ttx t).length) := h1
      rw [lexGo_some (by omega) h4 h1' (by have : 0 < (ttx t).length := h3; omega), lexGo_white (by omega) (by rw [hB]; decide)]
      rw [show i + (ttx t).length + 1 = i + ((ttx t).length + 1) from by omega, m1]
      simp
    · cases j with
      | zero => simpa [tkAt] using h2
      | succ j => have := m3 j (by simpa using hj); simpa [tkAt] using this

/-- The words of a short text are read again from their texts. -/
theorem relex {s : ByteArray} (hs : s.size ≤ 3000) (hk : (lexF s).2 = -1) :
    (lexF ⟨(joinL (lexF s).1).toArray⟩).2 = -1 ∧ (lexF ⟨(joinL (lexF s).1).toArray⟩).1.length = (lexF s).1.length ∧ ∀ j, j < (lexF s).1.length → Same (tkAt (lexF ⟨(joinL (lexF s).1).toArray⟩).1 j) (tkAt (lexF s).1 j) := by
  have e : lexF s = lexGo s 0 [] := by rw [lexF, if_neg (by omega)]
  obtain ⟨hi, _⟩ := lexGo_inv s 0 [] (Nat.zero_le _) (Inv.nil 0)
  rw [← e] at hi
  have hl := hi.len
  generalize (lexF s).1 = l at hi hl ⊢
  have hT : (ByteArray.mk (joinL l).toArray).size = (joinL l).length := by show (joinL l).toArray.size = _; simp
  have eT : lexF ⟨(joinL l).toArray⟩ = lexGo ⟨(joinL l).toArray⟩ 0 [] := by rw [lexF, if_neg (by omega)]
  obtain ⟨m, m1, m2, m3⟩ := relex_all (T := ⟨(joinL l).toArray⟩) l 0 [] hi.good ⟨by rw [Nat.zero_add, hT]; exact Nat.le_refl _, by simp⟩ (by rw [Nat.zero_add, hT])
  rw [eT, m1]
  exact ⟨rfl, m2, m3⟩

end Go.Proofs.Ytkdlgglikhbnkac
