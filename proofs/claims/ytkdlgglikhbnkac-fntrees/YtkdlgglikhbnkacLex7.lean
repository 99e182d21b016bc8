/- spec.l3blank and spec.l3take: blanks are passed; a word is taken. -/
import Derived.Test.YtkdlgglikhbnkacLex5
import Derived.Deep.QuietTactic
import Derived.BigQuiet
import Derived.Lib.QuietBelow
namespace Go.Proofs.Ytkdlgglikhbnkac
open Go.ChangeShapes Go.WideShapes Go.ChangeAt Go.RowKit
set_option linter.unusedVariables false
set_option maxRecDepth 100000
attribute [local go_sem ↓] Go.wp_at_zero Go.wp_at_succ
attribute [local go_sem] byte_eq

theorem whiteB_iff (b : Int) : whiteB b = true ↔ b = 32 ∨ b = 9 ∨ b = 10 := by simp [whiteB]

set_option maxHeartbeats 2000000 in
theorem l3blank_any (s : ByteArray) (i : Nat) (w : World) (hi : i ≤ s.size) (hs6 : s.size ≤ 6000) :
    Calls Try.prog 38 #[.string s, .int .i64 (i : Int)] w fun e w' => e = .returned (.int .i64 ((runTo whiteB s i : Nat) : Int)) ∧ w' = w := by
  go_enter Try.func38, Try.ntmps38
  go_wp2
  go_loop [1] (fun j => ∃ k : Nat, k ≤ s.size ∧ j = .int .i64 (k : Int) ∧ runTo whiteB s k = runTo whiteB s i) (fun j => s.size - (intOf j).toNat)
  case atStart => exact ⟨i, hi, rfl, rfl⟩
  case round =>
    obtain ⟨k, hk, rfl, hr⟩ := hrel
    by_cases hlt : k < s.size
    · have n0 : (0 : Int) ≤ (k : Int) := by omega
      have n1 : (k : Int) < (s.size : Int) := by omega
      by_cases h1 : bAt s k = 32
      · have g1 : (bAt s k == 32) = true := by simpa using h1
        have hR : runTo whiteB s (k + 1) = runTo whiteB s i := by rw [← hr, runTo_step hlt ((whiteB_iff _).2 (.inl h1))]
        clear h1
        go_wp2
        go_round
        case rel => exact ⟨k + 1, by omega, by go_num, hR⟩
        case measure => simp [intOf]; omega
      have g1 : (bAt s k == 32) = false := by simpa using h1
      by_cases h2 : bAt s k = 9
      · have g2 : (bAt s k == 9) = true := by simpa using h2
        have hR : runTo whiteB s (k + 1) = runTo whiteB s i := by rw [← hr, runTo_step hlt ((whiteB_iff _).2 (.inr (.inl h2)))]
        clear h1 h2
        go_wp2
        go_round
        case rel => exact ⟨k + 1, by omega, by go_num, hR⟩
        case measure => simp [intOf]; omega
      have g2 : (bAt s k == 9) = false := by simpa using h2
      by_cases h3 : bAt s k = 10
      · have g3 : (bAt s k == 10) = true := by simpa using h3
        have hR : runTo whiteB s (k + 1) = runTo whiteB s i := by rw [← hr, runTo_step hlt ((whiteB_iff _).2 (.inr (.inr h3)))]
        clear h1 h2 h3
        go_wp2
        go_round
        case rel => exact ⟨k + 1, by omega, by go_num, hR⟩
        case measure => simp [intOf]; omega
      have g3 : (bAt s k == 10) = false := by simpa using h3
      have hR : runTo whiteB s i = k := by
        rw [← hr, runTo_stop]
        rintro ⟨_, h⟩
        rcases (whiteB_iff _).1 h with h | h | h
        · exact h1 h
        · exact h2 h
        · exact h3 h
      clear h1 h2 h3 hr
      go_wp2
      go_ret
      exact ⟨by first | rfl | (rw [hR]; rfl), rfl⟩
    · have hR : runTo whiteB s i = k := by
        rw [← hr, runTo_stop]
        rintro ⟨h, _⟩
        exact hlt h
      clear hr
      go_wp2
      go_ret
      exact ⟨by first | rfl | (rw [hR]; rfl), rfl⟩

/-! ### A word is taken -/

def tagg (t : Tk) : Value := .agg #[.int .i64 t.k, .string t.s, .int .i64 t.n, .int .i64 t.p]
def TakeRet (s : ByteArray) (i : Nat) (w0 : World) (e : Ending) (w' : World) : Prop :=
  (∃ t to, e = .returned (.tuple #[tagg t, .int .i64 to]) ∧ ((lexAt s i = none ∧ to = -1) ∨ ∃ e' : Nat, lexAt s i = some (t, e') ∧ to = (e' : Int))) ∧ Below w0.heap.size w0 w'

theorem take_none {s : ByteArray} {i : Nat} {w0 w' : World} (h : lexAt s i = none) (hb : Below w0.heap.size w0 w') : TakeRet s i w0 (.returned (.tuple #[.agg #[.int .i64 0, .string ⟨#[]⟩, .int .i64 0, .int .i64 0], .int .i64 (-1)])) w' :=
  ⟨⟨⟨0, ⟨#[]⟩, 0, 0⟩, -1, rfl, .inl ⟨h, rfl⟩⟩, hb⟩
theorem take_some {s : ByteArray} {i e' : Nat} {w0 w' : World} {t : Tk} (h : lexAt s i = some (t, e')) (hb : Below w0.heap.size w0 w') : TakeRet s i w0 (.returned (.tuple #[.agg #[.int .i64 t.k, .string t.s, .int .i64 t.n, .int .i64 t.p], .int .i64 (e' : Int)])) w' :=
  ⟨⟨t, (e' : Int), rfl, .inr ⟨e', h, rfl⟩⟩, hb⟩

/-- The two boxes: the answer's, still as it was made; and the word's. -/
def Boxes2 (w0 w : World) (k : Int) (x : ByteArray) (n p : Int) : Prop :=
  Below w0.heap.size w0 w ∧ w0.heap.size + 2 ≤ w.heap.size ∧
  (w.cell? ⟨w0.heap.size, 0, none⟩ = some (.int .i64 0) ∧ w.cell? ⟨w0.heap.size, 1, none⟩ = some (.string ⟨#[]⟩) ∧ w.cell? ⟨w0.heap.size, 2, none⟩ = some (.int .i64 0) ∧ w.cell? ⟨w0.heap.size, 3, none⟩ = some (.int .i64 0)) ∧
  (w.frozen? ⟨w0.heap.size, 0, none⟩ = false ∧ w.frozen? ⟨w0.heap.size, 1, none⟩ = false ∧ w.frozen? ⟨w0.heap.size, 2, none⟩ = false ∧ w.frozen? ⟨w0.heap.size, 3, none⟩ = false) ∧
  (w.cell? ⟨w0.heap.size + 1, 0, none⟩ = some (.int .i64 k) ∧ w.cell? ⟨w0.heap.size + 1, 1, none⟩ = some (.string x) ∧ w.cell? ⟨w0.heap.size + 1, 2, none⟩ = some (.int .i64 n) ∧ w.cell? ⟨w0.heap.size + 1, 3, none⟩ = some (.int .i64 p)) ∧
  (w.frozen? ⟨w0.heap.size + 1, 0, none⟩ = false ∧ w.frozen? ⟨w0.heap.size + 1, 1, none⟩ = false ∧ w.frozen? ⟨w0.heap.size + 1, 2, none⟩ = false ∧ w.frozen? ⟨w0.heap.size + 1, 3, none⟩ = false)

theorem Boxes2.start (w0 : World) (p : Int) : Boxes2 w0 ((((((w0.alloc (Obj.cells #[.int .i64 0, .string ⟨#[]⟩, .int .i64 0, .int .i64 0] 59)).alloc (Obj.cells #[.int .i64 0, .string ⟨#[]⟩, .int .i64 0, .int .i64 p] 59)))))) 0 ⟨#[]⟩ 0 p := by
  refine ⟨((Below.refl _ _).alloc (Nat.le_refl _) _).alloc (by simp) _, by simp, ⟨?_, ?_, ?_, ?_⟩, ⟨?_, ?_, ?_, ?_⟩, ⟨?_, ?_, ?_, ?_⟩, ⟨?_, ?_, ?_, ?_⟩⟩ <;> simp [go_sem]
theorem Boxes2.stays {w0 w w' : World} {k : Int} {x : ByteArray} {n p : Int} (h : Boxes2 w0 w k x n p) (hb : Below w.heap.size w w') : Boxes2 w0 w' k x n p := by
  obtain ⟨h1, h2, ⟨a0, a1, a2, a3⟩, ⟨b0, b1, b2, b3⟩, ⟨c0, c1, c2, c3⟩, ⟨d0, d1, d2, d3⟩⟩ := h
  have hz := hb.size
  refine ⟨h1.trans (hb.mono h1.size), by omega, ⟨?_, ?_, ?_, ?_⟩, ⟨?_, ?_, ?_, ?_⟩, ⟨?_, ?_, ?_, ?_⟩, ⟨?_, ?_, ?_, ?_⟩⟩
  all_goals first | (rw [hb.cell (by simp; omega)]; assumption) | (rw [hb.frozen (by simp; omega)]; assumption)
theorem Boxes2.set0 {w0 w : World} {k : Int} {x : ByteArray} {n p : Int} (h : Boxes2 w0 w k x n p) (k' : Int) : Boxes2 w0 (w.setCell ⟨w0.heap.size + 1, 0, none⟩ (.int .i64 k')) k' x n p := by
  obtain ⟨h1, h2, ⟨a0, a1, a2, a3⟩, ⟨b0, b1, b2, b3⟩, ⟨c0, c1, c2, c3⟩, ⟨d0, d1, d2, d3⟩⟩ := h
  refine ⟨h1.setCell (by simp) _, by simpa [World.setCell] using h2, ⟨?_, ?_, ?_, ?_⟩, ⟨?_, ?_, ?_, ?_⟩, ⟨?_, ?_, ?_, ?_⟩, ⟨?_, ?_, ?_, ?_⟩⟩
  all_goals simp [go_sem, *]
theorem Boxes2.set1 {w0 w : World} {k : Int} {x : ByteArray} {n p : Int} (h : Boxes2 w0 w k x n p) (x' : ByteArray) : Boxes2 w0 (w.setCell ⟨w0.heap.size + 1, 1, none⟩ (.string x')) k x' n p := by
  obtain ⟨h1, h2, ⟨a0, a1, a2, a3⟩, ⟨b0, b1, b2, b3⟩, ⟨c0, c1, c2, c3⟩, ⟨d0, d1, d2, d3⟩⟩ := h
  refine ⟨h1.setCell (by simp) _, by simpa [World.setCell] using h2, ⟨?_, ?_, ?_, ?_⟩, ⟨?_, ?_, ?_, ?_⟩, ⟨?_, ?_, ?_, ?_⟩, ⟨?_, ?_, ?_, ?_⟩⟩
  all_goals simp [go_sem, *]
theorem Boxes2.set2 {w0 w : World} {k : Int} {x : ByteArray} {n p : Int} (h : Boxes2 w0 w k x n p) (n' : Int) : Boxes2 w0 (w.setCell ⟨w0.heap.size + 1, 2, none⟩ (.int .i64 n')) k x n' p := by
  obtain ⟨h1, h2, ⟨a0, a1, a2, a3⟩, ⟨b0, b1, b2, b3⟩, ⟨c0, c1, c2, c3⟩, ⟨d0, d1, d2, d3⟩⟩ := h
  refine ⟨h1.setCell (by simp) _, by simpa [World.setCell] using h2, ⟨?_, ?_, ?_, ?_⟩, ⟨?_, ?_, ?_, ?_⟩, ⟨?_, ?_, ?_, ?_⟩, ⟨?_, ?_, ?_, ?_⟩⟩
  all_goals simp [go_sem, *]

/-! ### Signs -/

def sgL : List (List UInt8) := [[61, 61], [123], [125], [40], [41], [91], [93], [59], [44], [61], [60], [43], [45], [42], [47], [37]]
def sgAt (k : Nat) : List UInt8 := sgL.getD k []
def Fit (s : ByteArray) (i k : Nat) : Prop := i + (sgAt k).length ≤ s.size ∧ (s.extract i (i + (sgAt k).length)).toList = sgAt k

theorem piece1 {s : ByteArray} {i : Nat} (hi : i < s.size) : (s.extract i (i + 1)).toList = [s.data.toList.getD i 0] := by
  have hl : i < s.data.toList.length := hi
  rw [ByteArray.toList_eq, extract_list (by omega) (by omega), Nat.add_sub_cancel_left, List.take_one]
  simp [List.getD, List.getElem?_eq_getElem hl]
theorem piece2 {s : ByteArray} {i : Nat} (hi : i + 1 < s.size) : (s.extract i (i + 2)).toList = [s.data.toList.getD i 0, s.data.toList.getD (i + 1) 0] := by
  have hl : i + 1 < s.data.toList.length := hi
  rw [ByteArray.toList_eq, extract_list (by omega) (by omega), Nat.add_sub_cancel_left]
  generalize s.data.toList = l at hl
  have hl0 : i < l.length := by omega
  have e1 : l.getD i 0 = l[i] := by simp [List.getD, List.getElem?_eq_getElem hl0]
  have e2 : l.getD (i + 1) 0 = l[i + 1] := by simp [List.getD, List.getElem?_eq_getElem hl]
  rw [e1, e2, List.drop_eq_getElem_cons hl0, List.drop_eq_getElem_cons hl]
  rfl
theorem bAt_iff {s : ByteArray} {i : Nat} (c : UInt8) : s.data.toList.getD i 0 = c ↔ bAt s i = (c.toNat : Int) := by
  unfold bAt
  constructor
  · intro h; rw [h]
  · intro h
    have : (s.data.toList.getD i 0).toNat = c.toNat := by omega
    exact UInt8.toNat_inj.1 this

theorem fit_zero {s : ByteArray} {i : Nat} : Fit s i 0 ↔ bAt s i = 61 ∧ i + 1 < s.size ∧ bAt s (i + 1) = 61 := by
  show (i + 2 ≤ s.size ∧ (s.extract i (i + 2)).toList = [61, 61]) ↔ _
  constructor
  · rintro ⟨h1, h2⟩
    rw [piece2 (by omega)] at h2
    injection h2 with h3 h4
    injection h4 with h4 _
    exact ⟨(bAt_iff 61).1 h3, by omega, (bAt_iff 61).1 h4⟩
  · rintro ⟨h1, h2, h3⟩
    refine ⟨by omega, ?_⟩
    rw [piece2 h2, (bAt_iff 61).2 h1, (bAt_iff 61).2 h3]
theorem fit_one {s : ByteArray} {i k : Nat} {c : UInt8} (hi : i < s.size) (hk : sgAt k = [c]) : Fit s i k ↔ bAt s i = (c.toNat : Int) := by
  unfold Fit
  rw [hk]
  show (i + 1 ≤ s.size ∧ (s.extract i (i + 1)).toList = [c]) ↔ _
  rw [piece1 hi, ← bAt_iff]
  constructor
  · rintro ⟨_, h⟩
    injection h
  · intro h
    exact ⟨hi, by rw [h]⟩
theorem sg_one {k : Nat} (h0 : 0 < k) (hk : k < 16) : ∃ c : UInt8, sgAt k = [c] ∧ signB (c.toNat : Int) = true := by
  have : k = 1 ∨ k = 2 ∨ k = 3 ∨ k = 4 ∨ k = 5 ∨ k = 6 ∨ k = 7 ∨ k = 8 ∨ k = 9 ∨ k = 10 ∨ k = 11 ∨ k = 12 ∨ k = 13 ∨ k = 14 ∨ k = 15 := by omega
  rcases this with rfl | rfl | rfl | rfl | rfl | rfl | rfl | rfl | rfl | rfl | rfl | rfl | rfl | rfl | rfl <;> exact ⟨_, rfl, by decide⟩

theorem sign_found {s : ByteArray} {i k : Nat} (hi : i < s.size) (hd : digB (bAt s i) = false) (hl : letB (bAt s i) = false) (ht : tabB' (bAt s i) = false) (hk : k < 16) (hf : Fit s i k) (hno : ∀ j, j < k → ¬ Fit s i j) :
    lexAt s i = some (⟨5, s.extract i (i + (sgAt k).length), 0, i⟩, i + (sgAt k).length) := by
  rw [lexAt, if_neg (by simp [hd]), if_neg (by simp [hl]), if_neg (by simp [ht])]
  by_cases h0 : k = 0
  · subst h0
    have h := fit_zero.1 hf
    rw [if_pos (by rw [h.1]; decide), if_pos h]
    rfl
  · obtain ⟨c, hc, hs⟩ := sg_one (by omega) hk
    have h := (fit_one hi hc).1 hf
    rw [if_pos (by rw [h]; exact hs), if_neg (fun h2 => hno 0 (by omega) (fit_zero.2 h2)), hc]
    rfl
theorem sign_none {s : ByteArray} {i : Nat} (hi : i < s.size) (hd : digB (bAt s i) = false) (hl : letB (bAt s i) = false) (ht : tabB' (bAt s i) = false) (hno : ∀ j, j < 16 → ¬ Fit s i j) : lexAt s i = none := by
  have key : ∀ k, k < 16 → ∀ c : UInt8, sgAt k = [c] → bAt s i ≠ (c.toNat : Int) := fun k hk c hc h => hno k hk ((fit_one hi hc).2 h)
  have hs : signB (bAt s i) = false := by
    cases hh : signB (bAt s i)
    · rfl
    · exfalso
      have h2 : bAt s i = 123 ∨ bAt s i = 125 ∨ bAt s i = 40 ∨ bAt s i = 41 ∨ bAt s i = 91 ∨ bAt s i = 93 ∨ bAt s i = 59 ∨ bAt s i = 44 ∨ bAt s i = 61 ∨ bAt s i = 60 ∨ bAt s i = 43 ∨ bAt s i = 45 ∨ bAt s i = 42 ∨ bAt s i = 47 ∨ bAt s i = 37 := by simpa [signB] using hh
      rcases h2 with h | h | h | h | h | h | h | h | h | h | h | h | h | h | h
      · exact key 1 (by omega) 123 rfl h
      · exact key 2 (by omega) 125 rfl h
      · exact key 3 (by omega) 40 rfl h
      · exact key 4 (by omega) 41 rfl h
      · exact key 5 (by omega) 91 rfl h
      · exact key 6 (by omega) 93 rfl h
      · exact key 7 (by omega) 59 rfl h
      · exact key 8 (by omega) 44 rfl h
      · exact key 9 (by omega) 61 rfl h
      · exact key 10 (by omega) 60 rfl h
      · exact key 11 (by omega) 43 rfl h
      · exact key 12 (by omega) 45 rfl h
      · exact key 13 (by omega) 42 rfl h
      · exact key 14 (by omega) 47 rfl h
      · exact key 15 (by omega) 37 rfl h
  rw [lexAt, if_neg (by simp [hd]), if_neg (by simp [hl]), if_neg (by simp [ht]), if_neg (by simp [hs])]

theorem bytes_ext {x y : ByteArray} (h : x.toList = y.toList) : x = y := by
  rw [ByteArray.toList_eq, ByteArray.toList_eq] at h
  obtain ⟨⟨x⟩⟩ := x
  obtain ⟨⟨y⟩⟩ := y
  simp at h
  rw [h]

/-- Block b holds the sixteen signs. -/
def SignsAt (w : World) (b : Nat) : Prop := b < w.heap.size ∧ ∀ k, k < 16 → ∃ x : ByteArray, w.cell? ⟨b, k, none⟩ = some (.string x) ∧ x.toList = sgAt k ∧ x.size = (sgAt k).length ∧ x.size ≤ 2
theorem SignsAt.stays {w w' : World} {b : Nat} (h : SignsAt w b) (hb : Below w.heap.size w w') : SignsAt w' b := by
  refine ⟨Nat.lt_of_lt_of_le h.1 hb.size, fun k hk => ?_⟩
  obtain ⟨x, h1, h2⟩ := h.2 k hk
  exact ⟨x, by rw [hb.cell (by exact h.1)]; exact h1, h2⟩
theorem SignsAt.start (w : World) : SignsAt (w.alloc (Obj.cells #[.string ⟨#[61, 61]⟩, .string ⟨#[123]⟩, .string ⟨#[125]⟩, .string ⟨#[40]⟩, .string ⟨#[41]⟩, .string ⟨#[91]⟩, .string ⟨#[93]⟩, .string ⟨#[59]⟩, .string ⟨#[44]⟩, .string ⟨#[61]⟩, .string ⟨#[60]⟩, .string ⟨#[43]⟩, .string ⟨#[45]⟩, .string ⟨#[42]⟩, .string ⟨#[47]⟩, .string ⟨#[37]⟩] 9)) w.heap.size := by
  refine ⟨by simp, fun k hk => ⟨⟨(sgAt k).toArray⟩, ?_, by rw [ByteArray.toList_eq], by rfl, ?_⟩⟩
  · have : k = 0 ∨ k = 1 ∨ k = 2 ∨ k = 3 ∨ k = 4 ∨ k = 5 ∨ k = 6 ∨ k = 7 ∨ k = 8 ∨ k = 9 ∨ k = 10 ∨ k = 11 ∨ k = 12 ∨ k = 13 ∨ k = 14 ∨ k = 15 := by omega
    rcases this with rfl | rfl | rfl | rfl | rfl | rfl | rfl | rfl | rfl | rfl | rfl | rfl | rfl | rfl | rfl | rfl <;> simp [go_sem, sgAt, sgL]
  · have : k = 0 ∨ k = 1 ∨ k = 2 ∨ k = 3 ∨ k = 4 ∨ k = 5 ∨ k = 6 ∨ k = 7 ∨ k = 8 ∨ k = 9 ∨ k = 10 ∨ k = 11 ∨ k = 12 ∨ k = 13 ∨ k = 14 ∨ k = 15 := by omega
    rcases this with rfl | rfl | rfl | rfl | rfl | rfl | rfl | rfl | rfl | rfl | rfl | rfl | rfl | rfl | rfl | rfl <;> decide

set_option maxHeartbeats 4000000 in
theorem l3take_any (s : ByteArray) (i : Nat) (w : World) (hi : i < s.size) (hs6 : s.size ≤ 6000) :
    Calls Try.prog 39 #[.string s, .int .i64 (i : Int)] w (TakeRet s i w) := by
  have n0 : (0 : Int) ≤ (i : Int) := by omega
  have n1 : (i : Int) < (s.size : Int) := by omega
  have B0 := Boxes2.start w i
  go_enter Try.func39, Try.ntmps39
  go_wp2_with fail
  refine (l3digit_any _ _).mono ?_
  rintro e w1 ⟨rfl, rfl⟩
  generalize (w.alloc (Obj.cells #[.int .i64 0, .string ⟨#[]⟩, .int .i64 0, .int .i64 0] 59)).alloc (Obj.cells #[.int .i64 0, .string ⟨#[]⟩, .int .i64 0, .int .i64 (i : Int)] 59) = w1 at B0 ⊢
  by_cases hd : digB (bAt s i) = true
  · have B1 := B0.set0 1
    obtain ⟨h1, h2, ⟨a0, a1, a2, a3⟩, ⟨b0, b1, b2, b3⟩, ⟨c0, c1, c2, c3⟩, ⟨d0, d1, d2, d3⟩⟩ := B0
    go_wp2
    clear c0 c1 c2 c3 d0 d1 d2 d3 a0 a1 a2 a3 b0 b1 b2 b3 h1 h2
    generalize w1.setCell ⟨w.heap.size + 1, 0, none⟩ (.int .i64 1) = w2 at B1 ⊢
    go_loopw [7] (fun t wr => ∃ e : Nat, i ≤ e ∧ e ≤ s.size ∧ e ≤ i + 9 ∧ t = .int .i64 (e : Int) ∧ (∀ j, i ≤ j → j < e → digB (bAt s j) = true) ∧ Boxes2 w wr 1 ⟨#[]⟩ (numAt s i (e - i)) i) (fun t _ => s.size - (intOf t).toNat)
    case atStart => exact ⟨i, Nat.le_refl _, by omega, by omega, rfl, fun j h1 h2 => by omega, by rw [Nat.sub_self]; exact B1⟩
    case round =>
      clear B1
      rename World => wo
      obtain ⟨e, hie, hes, he9, rfl, hall, B⟩ := hrel
      have m0 : (0 : Int) ≤ (e : Int) := by omega
      by_cases hlt : e < s.size
      · have m1 : (e : Int) < (s.size : Int) := by omega
        go_wp2_with fail
        refine (l3digit_any _ _).mono ?_
        rintro er wx ⟨rfl, rfl⟩
        by_cases hde : digB (bAt s e) = true
        · by_cases h9 : e = i + 9
          · have hat : lexAt s i = none := by
              rw [lexAt, if_pos hd, if_pos]
              have := runTo_ge digB s (e + 1)
              rw [runTo_eq (e := e + 1) (by omega) (fun j h1 h2 => by by_cases ej : j = e; rw [ej]; exact hde; exact hall j (by omega) (by omega)) (by omega)]
              omega
            have h9' : ((e : Int) - (i : Int) == 9) = true := by rw [beq_iff_eq]; omega
            obtain ⟨h1, h2, ⟨a0, a1, a2, a3⟩, ⟨b0, b1, b2, b3⟩, ⟨c0, c1, c2, c3⟩, ⟨d0, d1, d2, d3⟩⟩ := B
            clear h9
            go_wp2
            refine bodyPost_ret (v := .tuple #[.agg #[.int .i64 0, .string ⟨#[]⟩, .int .i64 0, .int .i64 0], .int .i64 (-1)]) (by simp [results, Try.results39, go_sem, a0, a1, a2, a3]) rfl (take_none hat ?_)
            exact (((h1.setCell (by simp) _).setCell (by simp) _).setCell (by simp) _).setCell (by simp) _
          · have h9' : ((e : Int) - (i : Int) == 9) = false := by rw [beq_eq_false_iff_ne]; omega
            have hnb := numAt_le (s := s) (i := i) (n := e - i) (by omega) (fun j hj => hall (i + j) (by omega) (by omega))
            have hnb2 := numAt_le (s := s) (i := i) (n := e - i + 1) (by omega) (fun j hj => by
              by_cases ej : i + j = e
              · rw [ej]; exact hde
              · exact hall (i + j) (by omega) (by omega))
            simp only [numAt] at hnb2
            rw [show i + (e - i) = e from by omega] at hnb2
            have hdd : 48 ≤ bAt s e ∧ bAt s e ≤ 57 := by simpa [digB] using hde
            have BD := B.stays (Below.refl wx.heap.size wx).drew
            have cN : wx.drew.cell? ⟨w.heap.size + 1, 2, none⟩ = some (.int .i64 (numAt s i (e - i))) := BD.2.2.2.2.1.2.2.1
            have fN : wx.drew.frozen? ⟨w.heap.size + 1, 2, none⟩ = false := BD.2.2.2.2.2.2.2.1
            have BN := BD.set2 (numAt s i (e - i) * 10 + (bAt s e - 48))
            clear BD B
            go_wp2_with fail
            refine region_last (fun y => y.cell? ⟨w.heap.size + 1, 2, none⟩ = some (.int .i64 (numAt s i (e - i)))) (by kernel_rfl) (by kernel_rfl) (by kernel_rfl) cN (fun hHeld => ?_)
            simp only [List.dropLast, List.length_cons, List.length_nil, Nat.reduceAdd]
            refine takeL (i := 0) (v := ?_) rfl (by kernel_rfl) (by kernel_rfl) (by kernel_rfl) (fun _ _ _ h => h) rfl (by assumption) ?_ ?_
            rotate_left
            · (intro wS hSw; (try dsimp only at hSw); go_simp; try with_reducible rfl)
            (try simp only [Act.put, List.setIfInBounds_toArray, List.set_cons_zero, List.set_cons_succ])
            refine takeL (i := 1) (v := ?_) rfl (by kernel_rfl) (by kernel_rfl) (by kernel_rfl) (fun _ _ _ h => h) rfl (by assumption) ?_ ?_
            rotate_left
            · (intro wS hSw; (try dsimp only at hSw); go_simp; try with_reducible rfl)
            (try simp only [Act.put, List.setIfInBounds_toArray, List.set_cons_zero, List.set_cons_succ])
            refine takeL (i := 2) (v := ?_) rfl (by kernel_rfl) (by kernel_rfl) (by kernel_rfl) (fun _ _ _ h => h) rfl (by assumption) ?_ ?_
            rotate_left
            · (intro wS hSw; (try dsimp only at hSw); go_simp; try with_reducible rfl)
            (try simp only [Act.put, List.setIfInBounds_toArray, List.set_cons_zero, List.set_cons_succ])
            refine takeL (i := 3) (v := ?_) rfl (by kernel_rfl) (by kernel_rfl) (by kernel_rfl) (fun _ _ _ h => h) rfl (by assumption) ?_ ?_
            rotate_left
            · (intro wS hSw; (try dsimp only at hSw); go_simp; try with_reducible rfl)
            (try simp only [Act.put, List.setIfInBounds_toArray, List.set_cons_zero, List.set_cons_succ])
            refine takeL (i := 4) (v := ?_) rfl (by kernel_rfl) (by kernel_rfl) (by kernel_rfl) (fun _ _ _ h => h) rfl (by assumption) ?_ ?_
            rotate_left
            · (intro wS hSw; (try dsimp only at hSw); go_simp; try with_reducible rfl)
            (try simp only [Act.put, List.setIfInBounds_toArray, List.set_cons_zero, List.set_cons_succ])
            refine takeL (i := 5) (v := ?_) rfl (by kernel_rfl) (by kernel_rfl) (by kernel_rfl) (fun _ _ _ h => h) rfl (by assumption) ?_ ?_
            rotate_left
            · (intro wS hSw; (try dsimp only at hSw); go_simp; try with_reducible rfl)
            (try simp only [Act.put, List.setIfInBounds_toArray, List.set_cons_zero, List.set_cons_succ])
            refine takeL (i := 6) (v := ?_) rfl (by kernel_rfl) (by kernel_rfl) (by kernel_rfl) (fun _ _ _ h => h) rfl (by assumption) ?_ ?_
            rotate_left
            · (intro wS hSw; (try dsimp only at hSw); go_simp; try with_reducible rfl)
            (try simp only [Act.put, List.setIfInBounds_toArray, List.set_cons_zero, List.set_cons_succ])
            refine takeL (i := 7) (v := ?_) rfl (by kernel_rfl) (by kernel_rfl) (by kernel_rfl) (fun _ _ _ h => h) rfl (by assumption) ?_ ?_
            rotate_left
            · (intro wS hSw; (try dsimp only at hSw); go_simp; try with_reducible rfl)
            (try simp only [Act.put, List.setIfInBounds_toArray, List.set_cons_zero, List.set_cons_succ])
            refine takeL (i := 8) (v := ?_) rfl (by kernel_rfl) (by kernel_rfl) (by kernel_rfl) (fun _ _ _ h => h) rfl (by assumption) ?_ ?_
            rotate_left
            · (intro wS hSw; (try dsimp only at hSw); go_simp; try with_reducible rfl)
            (try simp only [Act.put, List.setIfInBounds_toArray, List.set_cons_zero, List.set_cons_succ])
            refine takeL (i := 9) (v := ?_) rfl (by kernel_rfl) (by kernel_rfl) (by kernel_rfl) (fun _ _ _ h => h) rfl (by assumption) ?_ ?_
            rotate_left
            · (intro wS hSw; (try dsimp only at hSw); go_simp; try with_reducible rfl)
            (try simp only [Act.put, List.setIfInBounds_toArray, List.set_cons_zero, List.set_cons_succ])
            refine wpAnyH_done (by kernel_rfl) ?_ _
            refine lastL (n := 10) rfl rfl ?_
            go_simp
            go_wp2
            go_roundw
            case rel =>
              refine ⟨e + 1, by omega, by omega, by omega, by go_num, fun j h1 h2 => ?_, ?_⟩
              · by_cases ej : j = e
                · rw [ej]; exact hde
                · exact hall j h1 (by omega)
              · rw [show e + 1 - i = e - i + 1 from by omega]
                simp only [numAt]
                rw [show i + (e - i) = e from by omega]
                exact BN
            case measure => simp [intOf]; omega
        · rw [Bool.not_eq_true] at hde
          have hend : ¬ (e < s.size ∧ digB (bAt s e) = true) := by simp [hde]
          have hie' : i < e := by
            rcases Nat.lt_or_ge i e with h | h
            · exact h
            · exact absurd ⟨show e < s.size by omega, show digB (bAt s e) = true by rw [show e = i from by omega]; exact hd⟩ hend
          have hat := lexAt_num hie' hes hall hend
          rw [if_neg (by omega)] at hat
          obtain ⟨h1, h2, ⟨a0, a1, a2, a3⟩, ⟨b0, b1, b2, b3⟩, ⟨c0, c1, c2, c3⟩, ⟨d0, d1, d2, d3⟩⟩ := B
          go_wp2
          refine bodyPost_ret (v := .tuple #[.agg #[.int .i64 1, .string ⟨#[]⟩, .int .i64 (numAt s i (e - i)), .int .i64 i], .int .i64 (e : Int)]) (by simp [results, Try.results39, go_sem, a0, a1, a2, a3]) rfl (take_some hat ?_)
          exact (((h1.setCell (by simp) _).setCell (by simp) _).setCell (by simp) _).setCell (by simp) _
      · have hend : ¬ (e < s.size ∧ digB (bAt s e) = true) := fun h => hlt h.1
        have hie' : i < e := by
          rcases Nat.lt_or_ge i e with h | h
          · exact h
          · exact absurd ⟨show e < s.size by omega, show digB (bAt s e) = true by rw [show e = i from by omega]; exact hd⟩ hend
        have hat := lexAt_num hie' hes hall hend
        rw [if_neg (by omega)] at hat
        obtain ⟨h1, h2, ⟨a0, a1, a2, a3⟩, ⟨b0, b1, b2, b3⟩, ⟨c0, c1, c2, c3⟩, ⟨d0, d1, d2, d3⟩⟩ := B
        go_wp2
        refine bodyPost_ret (v := .tuple #[.agg #[.int .i64 1, .string ⟨#[]⟩, .int .i64 (numAt s i (e - i)), .int .i64 i], .int .i64 (e : Int)]) (by simp [results, Try.results39, go_sem, a0, a1, a2, a3]) rfl (take_some hat ?_)
        exact (((h1.setCell (by simp) _).setCell (by simp) _).setCell (by simp) _).setCell (by simp) _
  rw [Bool.not_eq_true] at hd
  go_wp2_with fail
  refine (l3small_any _ _).mono ?_
  rintro er w1' ⟨rfl, rfl⟩
  by_cases hl : letB (bAt s i) = true
  · go_wp2
    go_loop [7] (fun t => ∃ e : Nat, i ≤ e ∧ e ≤ s.size ∧ t = .int .i64 (e : Int) ∧ (∀ j, i ≤ j → j < e → inB (bAt s j) = true)) (fun t => s.size - (intOf t).toNat)
    case atStart => exact ⟨i, Nat.le_refl _, by omega, rfl, fun j h1 h2 => by omega⟩
    case round =>
      obtain ⟨e, hie, hes, rfl, hall⟩ := hrel
      have m0 : (0 : Int) ≤ (e : Int) := by omega
      by_cases hlt : e < s.size
      · have m1 : (e : Int) < (s.size : Int) := by omega
        go_wp2_with fail
        refine (l3inner_any _ _).mono ?_
        rintro er wx ⟨rfl, rfl⟩
        by_cases hde : inB (bAt s e) = true
        · go_wp2
          go_round
          case rel =>
            refine ⟨e + 1, by omega, by omega, by go_num, fun j h1 h2 => ?_⟩
            by_cases ej : j = e
            · rw [ej]; exact hde
            · exact hall j h1 (by omega)
          case measure => simp [intOf]; omega
        · rw [Bool.not_eq_true] at hde
          have hend : ¬ (e < s.size ∧ inB (bAt s e) = true) := by simp [hde]
          have hie' : i < e := by
            rcases Nat.lt_or_ge i e with h | h
            · exact h
            · exact absurd ⟨show e < s.size by omega, show inB (bAt s e) = true by rw [show e = i from by omega]; simp [inB, hl]⟩ hend
          have hat := lexAt_name hie' hes hd hl (fun j h1 h2 => hall j (by omega) h2) hend
          have m2 : (e : Int) ≤ (s.size : Int) := by omega
          have m3 : (i : Int) ≤ (e : Int) := by omega
          have B1 := (B0.set1 (s.extract i e)).set0 2
          obtain ⟨h1, h2, ⟨a0, a1, a2, a3⟩, ⟨b0, b1, b2, b3⟩, ⟨c0, c1, c2, c3⟩, ⟨d0, d1, d2, d3⟩⟩ := B0
          go_wp2_with fail
          clear h1 h2 a0 a1 a2 a3 b0 b1 b2 b3 c0 c1 c2 c3 d0 d1 d2 d3
          refine (specIsWord_any _ _).mono ?_
          rintro er w3 ⟨rfl, hb3⟩
          have B2 := B1.stays hb3
          clear B1 hb3
          by_cases hwd : wordB (s.extract i e).toList = true
          · rw [if_pos hwd] at hat
            obtain ⟨h1, h2, ⟨a0, a1, a2, a3⟩, ⟨b0, b1, b2, b3⟩, ⟨c0, c1, c2, c3⟩, ⟨d0, d1, d2, d3⟩⟩ := B2
            by_cases h20 : 20 < e - i
            · rw [if_pos h20] at hat
              go_wp2
              refine bodyPost_ret (v := .tuple #[.agg #[.int .i64 0, .string ⟨#[]⟩, .int .i64 0, .int .i64 0], .int .i64 (-1)]) (by simp [results, Try.results39, go_sem, a0, a1, a2, a3]) rfl (take_none hat ?_)
              exact ((((h1.setCell (by simp) _).setCell (by simp) _).setCell (by simp) _).setCell (by simp) _).setCell (by simp) _
            · rw [if_neg h20] at hat
              go_wp2
              refine bodyPost_ret (v := .tuple #[.agg #[.int .i64 3, .string (s.extract i e), .int .i64 0, .int .i64 i], .int .i64 (e : Int)]) (by simp [results, Try.results39, go_sem, a0, a1, a2, a3]) rfl (take_some hat ?_)
              exact ((((h1.setCell (by simp) _).setCell (by simp) _).setCell (by simp) _).setCell (by simp) _).setCell (by simp) _
          · rw [if_neg hwd] at hat
            rw [Bool.not_eq_true] at hwd
            obtain ⟨h1, h2, ⟨a0, a1, a2, a3⟩, ⟨b0, b1, b2, b3⟩, ⟨c0, c1, c2, c3⟩, ⟨d0, d1, d2, d3⟩⟩ := B2
            by_cases h20 : 20 < e - i
            · rw [if_pos h20] at hat
              go_wp2
              refine bodyPost_ret (v := .tuple #[.agg #[.int .i64 0, .string ⟨#[]⟩, .int .i64 0, .int .i64 0], .int .i64 (-1)]) (by simp [results, Try.results39, go_sem, a0, a1, a2, a3]) rfl (take_none hat ?_)
              exact (((h1.setCell (by simp) _).setCell (by simp) _).setCell (by simp) _).setCell (by simp) _
            · rw [if_neg h20] at hat
              go_wp2
              refine bodyPost_ret (v := .tuple #[.agg #[.int .i64 2, .string (s.extract i e), .int .i64 0, .int .i64 i], .int .i64 (e : Int)]) (by simp [results, Try.results39, go_sem, a0, a1, a2, a3]) rfl (take_some hat ?_)
              exact (((h1.setCell (by simp) _).setCell (by simp) _).setCell (by simp) _).setCell (by simp) _
      · have hend : ¬ (e < s.size ∧ inB (bAt s e) = true) := fun h => hlt h.1
        have hie' : i < e := by
          rcases Nat.lt_or_ge i e with h | h
          · exact h
          · exact absurd ⟨show e < s.size by omega, show inB (bAt s e) = true by rw [show e = i from by omega]; simp [inB, hl]⟩ hend
        have hat := lexAt_name hie' hes hd hl (fun j h1 h2 => hall j (by omega) h2) hend
        have m2 : (e : Int) ≤ (s.size : Int) := by omega
        have m3 : (i : Int) ≤ (e : Int) := by omega
        have B1 := (B0.set1 (s.extract i e)).set0 2
        obtain ⟨h1, h2, ⟨a0, a1, a2, a3⟩, ⟨b0, b1, b2, b3⟩, ⟨c0, c1, c2, c3⟩, ⟨d0, d1, d2, d3⟩⟩ := B0
        go_wp2_with fail
        clear h1 h2 a0 a1 a2 a3 b0 b1 b2 b3 c0 c1 c2 c3 d0 d1 d2 d3
        refine (specIsWord_any _ _).mono ?_
        rintro er w3 ⟨rfl, hb3⟩
        have B2 := B1.stays hb3
        clear B1 hb3
        by_cases hwd : wordB (s.extract i e).toList = true
        · rw [if_pos hwd] at hat
          obtain ⟨h1, h2, ⟨a0, a1, a2, a3⟩, ⟨b0, b1, b2, b3⟩, ⟨c0, c1, c2, c3⟩, ⟨d0, d1, d2, d3⟩⟩ := B2
          by_cases h20 : 20 < e - i
          · rw [if_pos h20] at hat
            go_wp2
            refine bodyPost_ret (v := .tuple #[.agg #[.int .i64 0, .string ⟨#[]⟩, .int .i64 0, .int .i64 0], .int .i64 (-1)]) (by simp [results, Try.results39, go_sem, a0, a1, a2, a3]) rfl (take_none hat ?_)
            exact ((((h1.setCell (by simp) _).setCell (by simp) _).setCell (by simp) _).setCell (by simp) _).setCell (by simp) _
          · rw [if_neg h20] at hat
            go_wp2
            refine bodyPost_ret (v := .tuple #[.agg #[.int .i64 3, .string (s.extract i e), .int .i64 0, .int .i64 i], .int .i64 (e : Int)]) (by simp [results, Try.results39, go_sem, a0, a1, a2, a3]) rfl (take_some hat ?_)
            exact ((((h1.setCell (by simp) _).setCell (by simp) _).setCell (by simp) _).setCell (by simp) _).setCell (by simp) _
        · rw [if_neg hwd] at hat
          rw [Bool.not_eq_true] at hwd
          obtain ⟨h1, h2, ⟨a0, a1, a2, a3⟩, ⟨b0, b1, b2, b3⟩, ⟨c0, c1, c2, c3⟩, ⟨d0, d1, d2, d3⟩⟩ := B2
          by_cases h20 : 20 < e - i
          · rw [if_pos h20] at hat
            go_wp2
            refine bodyPost_ret (v := .tuple #[.agg #[.int .i64 0, .string ⟨#[]⟩, .int .i64 0, .int .i64 0], .int .i64 (-1)]) (by simp [results, Try.results39, go_sem, a0, a1, a2, a3]) rfl (take_none hat ?_)
            exact (((h1.setCell (by simp) _).setCell (by simp) _).setCell (by simp) _).setCell (by simp) _
          · rw [if_neg h20] at hat
            go_wp2
            refine bodyPost_ret (v := .tuple #[.agg #[.int .i64 2, .string (s.extract i e), .int .i64 0, .int .i64 i], .int .i64 (e : Int)]) (by simp [results, Try.results39, go_sem, a0, a1, a2, a3]) rfl (take_some hat ?_)
            exact (((h1.setCell (by simp) _).setCell (by simp) _).setCell (by simp) _).setCell (by simp) _
  rw [Bool.not_eq_true] at hl
  have hsl : ∀ x : World, (Instr.slice 9 (.string s) (some (.int .i64 (i : Int))) (some (.int .i64 ((i : Int) + 1))) none).run Try.prog x = .ok (.string (s.extract i (i + 1))) x := fun x => by
    have m1 : ((i + 1 : Nat) : Int) ≤ (s.size : Int) := by omega
    have m2 : (i : Int) ≤ ((i + 1 : Nat) : Int) := by omega
    rw [show (i : Int) + 1 = ((i + 1 : Nat) : Int) from by omega]
    generalize i + 1 = e at *
    simp [go_sem, n0, m1, m2]
  have htp := tOf_piece hi
  go_wp2_with fail
  refine (specTableOf_any _ _).mono ?_
  rintro er w2 ⟨rfl, rfl⟩
  rw [htp]
  by_cases ht : tabB' (bAt s i) = true
  · rw [if_pos ht] at htp ⊢
    have hat : lexAt s i = some (⟨4, s.extract i (i + 1), bAt s i - 65, i⟩, i + 1) := by
      simp [lexAt, hd, hl, ht]
    have hnn : (0 : Int) ≤ bAt s i - 65 := by
      have := (tabB'_iff _).1 ht
      omega
    have B1 := (B0.set0 4).set1 (s.extract i (i + 1))
    obtain ⟨h1, h2, ⟨a0, a1, a2, a3⟩, ⟨b0, b1, b2, b3⟩, ⟨c0, c1, c2, c3⟩, ⟨d0, d1, d2, d3⟩⟩ := B0
    go_wp2_with fail
    clear h1 h2 a0 a1 a2 a3 b0 b1 b2 b3 c0 c1 c2 c3 d0 d1 d2 d3
    refine (specTableOf_any _ _).mono ?_
    rintro er w3 ⟨rfl, rfl⟩
    rw [htp]
    obtain ⟨h1, h2, ⟨a0, a1, a2, a3⟩, ⟨b0, b1, b2, b3⟩, ⟨c0, c1, c2, c3⟩, ⟨d0, d1, d2, d3⟩⟩ := B1
    go_wp2
    refine bodyPost_ret (v := .tuple #[.agg #[.int .i64 4, .string (s.extract i (i + 1)), .int .i64 (bAt s i - 65), .int .i64 i], .int .i64 ((i + 1 : Nat) : Int)]) (by simp [results, Try.results39, go_sem, a0, a1, a2, a3]) rfl (take_some hat ?_)
    exact ((((h1.setCell (by simp) _).setCell (by simp) _).setCell (by simp) _).setCell (by simp) _).setCell (by simp) _
  rw [if_neg ht]
  rw [Bool.not_eq_true] at ht
  clear htp
  have SG := SignsAt.start w2
  have B1 := B0.stays ((Below.refl _ _).alloc (Nat.le_refl _) (Obj.cells #[.string ⟨#[61, 61]⟩, .string ⟨#[123]⟩, .string ⟨#[125]⟩, .string ⟨#[40]⟩, .string ⟨#[41]⟩, .string ⟨#[91]⟩, .string ⟨#[93]⟩, .string ⟨#[59]⟩, .string ⟨#[44]⟩, .string ⟨#[61]⟩, .string ⟨#[60]⟩, .string ⟨#[43]⟩, .string ⟨#[45]⟩, .string ⟨#[42]⟩, .string ⟨#[47]⟩, .string ⟨#[37]⟩] 9))
  have hsb0 := B0.2.1
  clear B0 hsl
  go_wp2
  generalize w2.alloc (Obj.cells #[.string ⟨#[61, 61]⟩, .string ⟨#[123]⟩, .string ⟨#[125]⟩, .string ⟨#[40]⟩, .string ⟨#[41]⟩, .string ⟨#[91]⟩, .string ⟨#[93]⟩, .string ⟨#[59]⟩, .string ⟨#[44]⟩, .string ⟨#[61]⟩, .string ⟨#[60]⟩, .string ⟨#[43]⟩, .string ⟨#[45]⟩, .string ⟨#[42]⟩, .string ⟨#[47]⟩, .string ⟨#[37]⟩] 9) = w3 at SG B1 ⊢
  have hsb2 : w.heap.size + 2 ≤ w2.heap.size := hsb0
  generalize w2.heap.size = sb at SG hsb2 ⊢
  clear hsb0
  go_loopw [9] (fun t wr => ∃ k : Nat, k ≤ 16 ∧ t = .int .i64 (k : Int) ∧ (∀ j, j < k → ¬ Fit s i j) ∧ SignsAt wr sb ∧ Boxes2 w wr 0 ⟨#[]⟩ 0 i) (fun t _ => 16 - (intOf t).toNat)
  case atStart => exact ⟨0, Nat.zero_le _, rfl, fun j hj => absurd hj (Nat.not_lt_zero _), SG, B1⟩
  case round =>
    clear SG B1
    rename World => wo
    obtain ⟨k, hk, rfl, hno, SG, B⟩ := hrel
    by_cases hlt : k < 16
    · obtain ⟨x, cx, hxl, hxs, hx2⟩ := SG.2 k hlt
      have k0 : (0 : Int) ≤ (k : Int) := by omega
      have k1 : (k : Int) < 16 := by omega
      have kx := cell_regrown cx
      have hsbl := SG.1
      by_cases hin : i + x.size ≤ s.size
      · have hin' : decide ((i : Int) + (x.size : Int) ≤ (s.size : Int)) = true := by rw [decide_eq_true_eq]; omega
        have hsl : ∀ y : World, (Instr.slice 9 (.string s) (some (.int .i64 (i : Int))) (some (.int .i64 ((i : Int) + (x.size : Int)))) none).run Try.prog y = .ok (.string (s.extract i (i + x.size))) y := fun y => by
          have m1 : ((i + x.size : Nat) : Int) ≤ (s.size : Int) := by omega
          have m2 : (i : Int) ≤ ((i + x.size : Nat) : Int) := by omega
          rw [show (i : Int) + (x.size : Int) = ((i + x.size : Nat) : Int) from by omega]
          generalize i + x.size = e at *
          simp [go_sem, n0, m1, m2]
        by_cases hf : (s.extract i (i + x.size)).toList = x.toList
        · have hq : ((s.extract i (i + x.size)).toList == x.toList) = true := by simpa using hf
          have hat := sign_found hi hd hl ht hlt ⟨by omega, by rw [← hxs, hf, hxl]⟩ hno
          rw [← hxs, bytes_ext hf] at hat
          clear hf hxl hxs
          go_wp2_with fail
          refine wp_region_quiet_below (by kernel_rfl) (by kernel_rfl) ?_
          repeat (go_big_quiet_step (fail))
          refine wpQuiet_nil ?_
          intro w4 hw4
          obtain ⟨⟨dq, osq⟩, hw5⟩ := hw4
          have hb4 : Below _ _ w4 := hw5 ▸ below_regrown _ dq osq
          clear hw5
          have B4 := B.stays hb4
          have SG4 := SG.stays hb4
          clear B SG
          have cx4 : w4.cell? ⟨sb, k, none⟩ = some (.string x) := by rw [hb4.cell (p := ⟨sb, k, none⟩) hsbl]; exact cx
          have q1 : ¬ sb = w.heap.size + 1 := by omega
          have q2 : ¬ w.heap.size + 1 = sb := by omega
          obtain ⟨h1, h2, ⟨a0, a1, a2, a3⟩, ⟨b0, b1, b2, b3⟩, ⟨c0, c1, c2, c3⟩, ⟨d0, d1, d2, d3⟩⟩ := B4
          clear kx cx hb4 SG4 hsl
          go_wp2
          refine bodyPost_ret (v := .tuple #[.agg #[.int .i64 5, .string x, .int .i64 0, .int .i64 i], .int .i64 ((i + x.size : Nat) : Int)]) (by simp [results, Try.results39, go_sem, a0, a1, a2, a3]) rfl (take_some hat ?_)
          exact (((((h1.setCell (by simp) _).setCell (by simp) _).setCell (by simp) _).setCell (by simp) _).setCell (by simp) _).setCell (by simp) _
        · have hq : ((s.extract i (i + x.size)).toList == x.toList) = false := by simpa using hf
          have hnf : ¬ Fit s i k := fun h => hf (by rw [hxl, hxs]; exact h.2)
          clear hf hxl hxs
          go_wp2_with fail
          refine wp_region_quiet_below (by kernel_rfl) (by kernel_rfl) ?_
          repeat (go_big_quiet_step (fail))
          refine wpQuiet_nil ?_
          intro w4 hw4
          obtain ⟨⟨dq, osq⟩, hw5⟩ := hw4
          have hb4 : Below _ _ w4 := hw5 ▸ below_regrown _ dq osq
          clear hw5
          have B4 := B.stays hb4
          have SG4 := SG.stays hb4
          clear B SG
          go_wp2
          go_roundw
          case rel =>
            refine ⟨k + 1, by omega, by go_num, fun j hj => ?_, SG4, B4⟩
            by_cases ej : j = k
            · rw [ej]; exact hnf
            · exact hno j (by omega)
          case measure => simp [intOf]; omega
      · have hin' : decide ((i : Int) + (x.size : Int) ≤ (s.size : Int)) = false := by rw [decide_eq_false_iff_not]; omega
        have hnf : ¬ Fit s i k := fun h => hin (by rw [hxs]; exact h.1)
        clear hxl hxs
        go_wp2_with fail
        refine wp_region_quiet_below (by kernel_rfl) (by kernel_rfl) ?_
        repeat (go_big_quiet_step (fail))
        refine wpQuiet_nil ?_
        intro w4 hw4
        obtain ⟨⟨dq, osq⟩, hw5⟩ := hw4
        have hb4 : Below _ _ w4 := hw5 ▸ below_regrown _ dq osq
        clear hw5
        have B4 := B.stays hb4
        have SG4 := SG.stays hb4
        clear B SG
        go_wp2
        go_roundw
        case rel =>
          refine ⟨k + 1, by omega, by go_num, fun j hj => ?_, SG4, B4⟩
          by_cases ej : j = k
          · rw [ej]; exact hnf
          · exact hno j (by omega)
        case measure => simp [intOf]; omega
    · have hat := sign_none hi hd hl ht (fun j hj => hno j (by omega))
      obtain ⟨h1, h2, ⟨a0, a1, a2, a3⟩, ⟨b0, b1, b2, b3⟩, ⟨c0, c1, c2, c3⟩, ⟨d0, d1, d2, d3⟩⟩ := B
      go_wp2
      refine bodyPost_ret (v := .tuple #[.agg #[.int .i64 0, .string ⟨#[]⟩, .int .i64 0, .int .i64 0], .int .i64 (-1)]) (by simp [results, Try.results39, go_sem, a0, a1, a2, a3]) rfl (take_none hat ?_)
      exact (((h1.setCell (by simp) _).setCell (by simp) _).setCell (by simp) _).setCell (by simp) _
end Go.Proofs.Ytkdlgglikhbnkac
