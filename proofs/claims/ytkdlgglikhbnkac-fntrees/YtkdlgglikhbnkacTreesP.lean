/- Places of what can't be read; a fixed text, read. -/
import Derived.Test.YtkdlgglikhbnkacSParse
import Derived.Test.YtkdlgglikhbnkacPTree
import Derived.Test.YtkdlgglikhbnkacPConv0
import Derived.Test.YtkdlgglikhbnkacTSame2
namespace Go.Proofs.Ytkdlgglikhbnkac
open Go.ChangeShapes Go.WideShapes Go.ChangeAt Go.RowKit
set_option linter.unusedVariables false
set_option maxRecDepth 100000
attribute [local go_sem ↓] Go.wp_at_zero Go.wp_at_succ

def runN : Nat → (Int → Bool) → ByteArray → Nat → Nat
  | 0, _, _, i => i
  | f + 1, p, s, i => if i < s.size ∧ p (bAt s i) = true then runN f p s (i + 1) else i
theorem runN_eq (p : Int → Bool) (s : ByteArray) : ∀ f i, s.size ≤ i + f → runN f p s i = runTo p s i
  | 0, i, h => by rw [runN, runTo_stop (by omega)]
  | f + 1, i, h => by
    rw [runN]
    by_cases h2 : i < s.size ∧ p (bAt s i) = true
    · rw [if_pos h2, runN_eq p s f (i + 1) (by omega), runTo_step h2.1 h2.2]
    · rw [if_neg h2, runTo_stop h2]

def lexAtN (s : ByteArray) (i : Nat) : Option (Tk × Nat) :=
  if digB (bAt s i) = true then
    if 9 < runN s.size digB s (i + 1) - i then none else some (⟨1, empS, numAt s i (runN s.size digB s (i + 1) - i), i⟩, runN s.size digB s (i + 1))
  else if letB (bAt s i) = true then
    if 20 < runN s.size inB s (i + 1) - i then none else some (⟨if wordB (s.extract i (runN s.size inB s (i + 1))).toList = true then 3 else 2, s.extract i (runN s.size inB s (i + 1)), 0, i⟩, runN s.size inB s (i + 1))
  else if tabB' (bAt s i) = true then some (⟨4, s.extract i (i + 1), bAt s i - 65, i⟩, i + 1)
  else if signB (bAt s i) = true then
    if bAt s i = 61 ∧ i + 1 < s.size ∧ bAt s (i + 1) = 61 then some (⟨5, s.extract i (i + 2), 0, i⟩, i + 2) else some (⟨5, s.extract i (i + 1), 0, i⟩, i + 1)
  else none
theorem lexAtN_eq (s : ByteArray) (i : Nat) : lexAtN s i = lexAt s i := by
  unfold lexAtN lexAt
  rw [runN_eq _ _ _ _ (by omega), runN_eq _ _ _ _ (by omega)]

def lexN : Nat → ByteArray → Nat → List Tk → List Tk × Int
  | 0, _, i, acc => (acc, -1)
  | f + 1, s, i, acc =>
    if i < s.size then
      if whiteB (bAt s i) = true then lexN f s (i + 1) acc
      else match lexAtN s i with
        | none => ([], i)
        | some (t, e) => if i < e then lexN f s e (acc ++ [t]) else ([], i)
    else (acc, -1)
theorem lexN_eq (s : ByteArray) : ∀ f i acc, s.size ≤ i + f → lexN f s i acc = lexGo s i acc
  | 0, i, acc, h => by rw [lexN, lexGo_end (by omega)]
  | f + 1, i, acc, h => by
    rw [lexN, lexGo]
    by_cases h2 : i < s.size
    · rw [if_pos h2, dif_pos h2]
      by_cases h3 : whiteB (bAt s i) = true
      · rw [if_pos h3, if_pos h3, lexN_eq s f (i + 1) acc (by omega)]
      · rw [if_neg h3, if_neg h3, lexAtN_eq]
        cases lexAt s i with
        | none => rfl
        | some x =>
          obtain ⟨t, e⟩ := x
          show (if i < e then lexN f s e (acc ++ [t]) else ([], (i : Int))) = if i < e then lexGo s e (acc ++ [t]) else ([], (i : Int))
          by_cases h4 : i < e
          · rw [if_pos h4, if_pos h4, lexN_eq s f e (acc ++ [t]) (by omega)]
          · rw [if_neg h4, if_neg h4]
    · rw [if_neg h2, dif_neg h2]

/-- Where a word stands. -/
def InS (s : ByteArray) (t : Tk) : Prop := 0 ≤ t.p ∧ t.p ≤ (s.size : Int)
theorem lexAt_place {s : ByteArray} {i e : Nat} {t : Tk} (h : lexAt s i = some (t, e)) : t.p = (i : Int) := by
  unfold lexAt at h
  repeat' split at h
  all_goals first
    | (injection h with h; injection h with h1 h2; subst h1; rfl)
    | cases h
theorem lexGo_places (s : ByteArray) (i : Nat) (acc : List Tk) (h : ∀ t, t ∈ acc → InS s t) : (∀ t, t ∈ (lexGo s i acc).1 → InS s t) ∧ (lexGo s i acc).2 ≤ (s.size : Int) := by
  rw [lexGo]
  split
  · rename_i hi
    split
    · exact lexGo_places s (i + 1) acc h
    · split
      · exact ⟨fun t ht => absurd ht (by simp), by show (i : Int) ≤ _; omega⟩
      · rename_i t e hat
        split
        · refine lexGo_places s e (acc ++ [t]) fun t' ht' => ?_
          rcases List.mem_append.1 ht' with ht' | ht'
          · exact h t' ht'
          · have e1 : t' = t := by simpa using ht'
            subst e1
            have := lexAt_place hat
            exact ⟨by omega, by omega⟩
        · exact ⟨fun t ht => absurd ht (by simp), by show (i : Int) ≤ _; omega⟩
  · exact ⟨h, by show (-1 : Int) ≤ _; omega⟩
termination_by s.size - i
theorem lexF_places (s : ByteArray) : (∀ t, t ∈ (lexF s).1 → InS s t) ∧ (lexF s).2 ≤ (s.size : Int) := by
  unfold lexF
  split
  · exact ⟨fun t ht => absurd ht (by simp), by show (0 : Int) ≤ _; omega⟩
  · exact lexGo_places s 0 [] (fun t ht => absurd ht (by simp))
theorem placeT_in (s : ByteArray) (i : Nat) : 0 ≤ placeT (lexF s).1 s.size i ∧ placeT (lexF s).1 s.size i ≤ (s.size : Int) := by
  rw [placeT]
  split
  · omega
  · by_cases hl : i < (lexF s).1.length
    · have hm : tkAt (lexF s).1 i ∈ (lexF s).1 := by
        have e : tkAt (lexF s).1 i = (lexF s).1[i] := by simp [tkAt, hl]
        rw [e]
        exact List.getElem_mem hl
      exact (lexF_places s).1 _ hm
    · have e : (tkAt (lexF s).1 i).p = 0 := by
        have e1 : tkAt (lexF s).1 i = tk0 := by simp [tkAt, hl]
        rw [e1]
        rfl
      rw [e]
      omega
/-- What Parse tells: all, or a place in the text, and no nodes. -/
theorem parseF_place (s : ByteArray) : (parseF s).2 = -1 ∨ (0 ≤ (parseF s).2 ∧ (parseF s).2 ≤ (s.size : Int) ∧ (parseF s).1.1 = []) := by
  rw [parseF]
  split
  · rw [parseT]
    rcases h : wholeL (lexF s).1 (lexF s).1.length [] 0 [] with ⟨ps, i, ns⟩ | i
    · dsimp only
      split
      · exact .inr ⟨(placeT_in s i).1, (placeT_in s i).2, rfl⟩
      · exact .inl rfl
    · exact .inr ⟨(placeT_in s i).1, (placeT_in s i).2, rfl⟩
  · rename_i hk
    rcases lexF_sign s with h | h
    · exact absurd h hk
    · exact .inr ⟨h, (lexF_places s).2, rfl⟩

def tT : ByteArray := (ByteArray.mk #[112, 114, 111, 99, 32, 112, 40, 97, 41, 32, 123, 32, 114, 101, 116, 117, 114, 110, 32, 97, 32, 43, 32, 49, 59, 32, 125])
theorem tT_words : lexF tT = lexN 40 tT 0 [] := by
  rw [lexF, if_neg (by decide), lexN_eq tT 40 0 [] (by decide)]
theorem tT_parse : (parseF tT).2 = -1 ∧ (parseF tT).1.1.length = 5 ∧ (parseF tT).1.2.length = 1 := by
  rw [parseF, tT_words]
  decide +kernel

set_option maxHeartbeats 4000000 in
theorem trees_any (w : World) : Calls Try.prog 7 #[] w fun e w' => e = .returned (.bool true) ∧ Below w.heap.size w w' := by
  obtain ⟨t1, t2, t3⟩ := tT_parse
  have hI := implParse_any tT w (by decide)
  rw [t1] at hI
  generalize (parseF tT).1.1 = ns at *
  generalize (parseF tT).1.2 = ps at *
  go_enter Try.func7, Try.ntmps7
  go_wp2_with fail
  refine hI.mono ?_
  rintro e w1 ⟨na, nc, q, pa, pc, p, rfl, hN, hqn, hP, hpn, hd, hb1⟩
  have hq5 : q.length = 5 := by rw [← qnds_length, hqn, t2]
  have hp1 : p.length = 1 := by rw [← qprs_length, hpn, t3]
  have V1 : SetAt w.heap.size w1.heap.size w1 (.slice na q.length nc) (.slice pa p.length pc) ns ps := ⟨by rw [← hqn]; exact nodesAt_own hN, by rw [← hpn]; exact procsAt_own hP⟩
  rw [hq5, hp1] at V1 ⊢
  clear hN hP hd hqn hpn hq5 hp1 hI t1 t2 t3
  have bA : Below w1.heap.size w1 (w1.alloc (Obj.cells #[.slice na 5 nc, .slice pa 1 pc] 27)) := (Below.refl _ _).alloc (Nat.le_refl _) _
  have VA := V1.stays bA
  have y0 : (w1.alloc (Obj.cells #[.slice na 5 nc, .slice pa 1 pc] 27)).cell? ⟨w1.heap.size, 0, none⟩ = some (.slice na 5 nc) := by simp [go_sem]
  have y1 : (w1.alloc (Obj.cells #[.slice na 5 nc, .slice pa 1 pc] 27)).cell? ⟨w1.heap.size, 1, none⟩ = some (.slice pa 1 pc) := by simp [go_sem]
  have BA := hb1.trans (bA.mono hb1.size)
  go_wp2_with fail
  generalize w1.alloc (Obj.cells #[.slice na 5 nc, .slice pa 1 pc] 27) = wA at *
  refine (implSameSet_any _ _ _ _ ns ns ps ps wA VA VA).mono ?_
  rintro e w2 ⟨⟨b, rfl, hb⟩, hb2⟩
  have hbt : b = true := hb.2 ⟨rfl, rfl⟩
  subst hbt
  clear hb
  go_wp2
  go_ret
  exact ⟨rfl, BA.trans (hb2.mono BA.size)⟩

end Go.Proofs.Ytkdlgglikhbnkac
