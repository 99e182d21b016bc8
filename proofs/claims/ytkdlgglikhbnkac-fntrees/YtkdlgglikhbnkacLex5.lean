/- impl.Lex cuts a text into its words. -/
import Derived.Test.YtkdlgglikhbnkacLex4
import Derived.Test.YtkdlgglikhbnkacRegLast
import Derived.OwnWalk
namespace Go.Proofs.Ytkdlgglikhbnkac
open Go.ChangeShapes Go.WideShapes Go.ChangeAt Go.RowKit
set_option linter.unusedVariables false
set_option maxRecDepth 100000
attribute [local go_sem ↓] Go.wp_at_zero Go.wp_at_succ
attribute [local go_sem] byte_eq

def tcell (t : Tk) : List Value := [.int .i64 t.k, .string t.s, .int .i64 t.n, .int .i64 t.p]
def tcells (l : List Tk) : List Value := l.flatMap tcell
theorem tcells_snoc (l : List Tk) (t : Tk) : tcells (l ++ [t]) = tcells l ++ tcell t := by simp [tcells]

theorem infoTok : (Try.prog.info? 59).map (fun i => (i.zero, i.size, i.bytes)) = some (some (.agg #[.int .i64 0, .string ⟨#[]⟩, .int .i64 0, .int .i64 0]), 4, 40) := by kernel_rfl

def Com (s : ByteArray) (w0 w : World) (v : Value) (l : List Tk) (i : Nat) : Prop :=
  Below w0.heap.size w0 w ∧ w.ownsRow w0.heap.size 59 4 v l.length (tcells l) ∧ i ≤ s.size ∧ l.length ≤ i ∧ lexGo s i l = lexGo s 0 []

def Frm (s : ByteArray) (wv av ev : Value) (a : Act) : Prop := ∃ u : Nat → Value, a = { tmps := #[.string s, u 1, u 2, u 3, wv, av, ev, u 7, u 8, u 9, u 10, u 11, u 12, u 13, u 14, u 15, u 16, u 17, u 18, u 19, u 20, u 21, u 22, u 23, u 24, u 25, u 26, u 27, u 28, u 29, u 30, u 31, u 32, u 33, u 34, u 35, u 36, u 37, u 38, u 39, u 40, u 41, u 42, u 43, u 44, u 45, u 46, u 47, u 48, u 49, u 50, u 51, u 52, u 53, u 54, u 55, u 56, u 57, u 58, u 59, u 60, u 61, u 62, u 63, u 64, u 65, u 66, u 67, u 68, u 69, u 70, u 71, u 72, u 73, u 74, u 75, u 76, u 77, u 78, u 79, u 80, u 81, u 82, u 83, u 84, u 85, u 86, u 87, u 88, u 89, u 90, u 91, u 92, u 93, u 94, u 95, u 96, u 97, u 98, u 99, u 100, u 101, u 102, u 103, u 104, u 105, u 106, u 107, u 108, u 109, u 110, u 111, u 112, u 113, u 114, u 115, u 116, u 117, u 118, u 119, u 120, u 121, u 122, u 123, u 124, u 125, u 126, u 127, u 128, u 129, u 130, u 131, u 132, u 133, u 134, u 135, u 136, u 137, u 138, u 139, u 140, u 141, u 142], defers := [] }
theorem frm_of {s : ByteArray} {wv av ev : Value} (t : Array Value) (h : t = #[.string s, t.getD 1 undef, t.getD 2 undef, t.getD 3 undef, wv, av, ev, t.getD 7 undef, t.getD 8 undef, t.getD 9 undef, t.getD 10 undef, t.getD 11 undef, t.getD 12 undef, t.getD 13 undef, t.getD 14 undef, t.getD 15 undef, t.getD 16 undef, t.getD 17 undef, t.getD 18 undef, t.getD 19 undef, t.getD 20 undef, t.getD 21 undef, t.getD 22 undef, t.getD 23 undef, t.getD 24 undef, t.getD 25 undef, t.getD 26 undef, t.getD 27 undef, t.getD 28 undef, t.getD 29 undef, t.getD 30 undef, t.getD 31 undef, t.getD 32 undef, t.getD 33 undef, t.getD 34 undef, t.getD 35 undef, t.getD 36 undef, t.getD 37 undef, t.getD 38 undef, t.getD 39 undef, t.getD 40 undef, t.getD 41 undef, t.getD 42 undef, t.getD 43 undef, t.getD 44 undef, t.getD 45 undef, t.getD 46 undef, t.getD 47 undef, t.getD 48 undef, t.getD 49 undef, t.getD 50 undef, t.getD 51 undef, t.getD 52 undef, t.getD 53 undef, t.getD 54 undef, t.getD 55 undef, t.getD 56 undef, t.getD 57 undef, t.getD 58 undef, t.getD 59 undef, t.getD 60 undef, t.getD 61 undef, t.getD 62 undef, t.getD 63 undef, t.getD 64 undef, t.getD 65 undef, t.getD 66 undef, t.getD 67 undef, t.getD 68 undef, t.getD 69 undef, t.getD 70 undef, t.getD 71 undef, t.getD 72 undef, t.getD 73 undef, t.getD 74 undef, t.getD 75 undef, t.getD 76 undef, t.getD 77 undef, t.getD 78 undef, t.getD 79 undef, t.getD 80 undef, t.getD 81 undef, t.getD 82 undef, t.getD 83 undef, t.getD 84 undef, t.getD 85 undef, t.getD 86 undef, t.getD 87 undef, t.getD 88 undef, t.getD 89 undef, t.getD 90 undef, t.getD 91 undef, t.getD 92 undef, t.getD 93 undef, t.getD 94 undef, t.getD 95 undef, t.getD 96 undef, t.getD 97 undef, t.getD 98 undef, t.getD 99 undef, t.getD 100 undef, t.getD 101 undef, t.getD 102 undef, t.getD 103 undef, t.getD 104 undef, t.getD 105 undef, t.getD 106 undef, t.getD 107 undef, t.getD 108 undef, t.getD 109 undef, t.getD 110 undef, t.getD 111 undef, t.getD 112 undef, t.getD 113 undef, t.getD 114 undef, t.getD 115 undef, t.getD 116 undef, t.getD 117 undef, t.getD 118 undef, t.getD 119 undef, t.getD 120 undef, t.getD 121 undef, t.getD 122 undef, t.getD 123 undef, t.getD 124 undef, t.getD 125 undef, t.getD 126 undef, t.getD 127 undef, t.getD 128 undef, t.getD 129 undef, t.getD 130 undef, t.getD 131 undef, t.getD 132 undef, t.getD 133 undef, t.getD 134 undef, t.getD 135 undef, t.getD 136 undef, t.getD 137 undef, t.getD 138 undef, t.getD 139 undef, t.getD 140 undef, t.getD 141 undef, t.getD 142 undef]) : Frm s wv av ev { tmps := t, defers := [] } := ⟨fun i => t.getD i undef, by rw [← h]⟩

def J0 (s : ByteArray) (w0 : World) (a : Act) (w : World) : Prop := ∃ v l i av, Com s w0 w v l i ∧ Frm s v av (.int .i64 (i : Int)) a
def J1 (s : ByteArray) (w0 : World) (a : Act) (w : World) : Prop := ∃ v l i e, Com s w0 w v l i ∧ i < e ∧ e ≤ s.size ∧ whiteB (bAt s i) = false ∧ (∀ j, i ≤ j → j < e → digB (bAt s j) = true) ∧ Frm s v (.int .i64 (i : Int)) (.int .i64 (e : Int)) a
def J2 (s : ByteArray) (w0 : World) (a : Act) (w : World) : Prop := ∃ v l i e, Com s w0 w v l i ∧ i < e ∧ e ≤ s.size ∧ whiteB (bAt s i) = false ∧ digB (bAt s i) = false ∧ letB (bAt s i) = true ∧ (∀ j, i < j → j < e → inB (bAt s j) = true) ∧ Frm s v (.int .i64 (i : Int)) (.int .i64 (e : Int)) a
def J3 (s : ByteArray) (w0 : World) (a : Act) (w : World) : Prop := ∃ v l i e, Com s w0 w v l i ∧ i < e ∧ e ≤ i + 1 ∧ e ≤ s.size ∧ whiteB (bAt s i) = false ∧ digB (bAt s i) = false ∧ letB (bAt s i) = false ∧ tabB' (bAt s i) = false ∧ signB (bAt s i) = true ∧ Frm s v (.int .i64 (i : Int)) (.int .i64 (e : Int)) a
def J4 (s : ByteArray) (w0 : World) (a : Act) (w : World) : Prop := ∃ v i ev, Below w0.heap.size w0 w ∧ lexGo s 0 [] = ([], (i : Int)) ∧ Frm s v (.int .i64 (i : Int)) ev a
def JJ (s : ByteArray) (w0 : World) : Nat → Act → World → Prop
  | 0 => J0 s w0
  | 1 => J1 s w0
  | 2 => J2 s w0
  | 3 => J3 s w0
  | _ => J4 s w0
def muJ (s : ByteArray) (l : Nat) (a : Act) (_ : World) : Nat := if l = 4 then 0 else 2 * (s.size + 1 - (intOf (a.tmps.getD 6 undef)).toNat) + (if l = 0 then 0 else 1)

def LexRet (s : ByteArray) (w0 : World) (e : Ending) (w' : World) : Prop := ∃ v, e = .returned (.tuple #[v, .int .i64 (lexF s).2]) ∧ w'.ownsRow w0.heap.size 59 4 v (lexF s).1.length (tcells (lexF s).1) ∧ Below w0.heap.size w0 w'

theorem Com.start (s : ByteArray) (w : World) : Com s w w (.slice none 0 0) [] 0 := ⟨Below.refl _ _, World.ownsRow_nil _ _ _ _, Nat.zero_le _, Nat.le_refl _, rfl⟩

theorem tok_keep {w w' : World} {base : Nat} {e : TypeId} {size : Nat} {v : Value} {n : Nat} {xs : List Value} (h : w.ownsRow base e size v n xs) (hb : Below w.heap.size w w') : w'.ownsRow base e size v n xs := by
  obtain ⟨h1, h2⟩ := h
  refine ⟨h1, ?_⟩
  rcases h2 with h2 | ⟨g, cap, cur, rfl, h4, h5, h6⟩
  · exact .inl h2
  · exact .inr ⟨g, cap, cur, rfl, h4, (hb.block g (Array.getElem?_eq_some_iff.1 h5).1).trans h5, h6⟩

theorem Com.snoc {s : ByteArray} {w0 w w' : World} {v v' : Value} {l : List Tk} {i e : Nat} {t : Tk} (hC : Com s w0 w v l i) (hi : i < s.size) (hw : whiteB (bAt s i) = false) (hat : lexAt s i = some (t, e)) (hie : i < e) (hes : e ≤ s.size)
    (hb : Below w0.heap.size w0 w') (hown : w'.ownsRow w0.heap.size 59 4 v' (l.length + 1) (tcells l ++ tcell t)) : Com s w0 w' v' (l ++ [t]) e := by
  refine ⟨hb, ?_, hes, ?_, ?_⟩
  · rw [tcells_snoc, List.length_append]
    exact hown
  · have := hC.2.2.2.1
    simp
    omega
  · rw [← hC.2.2.2.2, lexGo_some hi hw hat hie]

theorem at_goto {a : Act} {w : World} {n l : Nat} {J : Nat → Act → World → Prop} {Q : Exit → Act → World → Prop} (hl : l < n) (h : J l a w) : jumps n J Q (.goto l) a w := ⟨hl, h⟩

theorem heap_new (w : World) (o : Obj) : (w.alloc o).heap[w.heap.size]? = some o := by
  show (w.heap.push o)[w.heap.size]? = _
  simp

theorem build_tok (k : Int) (x : ByteArray) (n p : Int) (w : World) : (Instr.build 59 #[(0, .int .i64 k), (1, .string x), (2, .int .i64 n), (3, .int .i64 p)]).run Try.prog w = .ok (.agg #[.int .i64 k, .string x, .int .i64 n, .int .i64 p]) w := by kernel_rfl

theorem numAt_extract {s : ByteArray} {i e : Nat} (hij : i ≤ e) (hj : e ≤ s.size) : ∀ n, n ≤ e - i → numAt (s.extract i e) 0 n = numAt s i n
  | 0, _ => rfl
  | n + 1, h => by
    simp only [numAt, Nat.zero_add]
    rw [numAt_extract hij hj n (by omega), extract_at hij hj (by omega)]

theorem lexAt_num {s : ByteArray} {i e : Nat} (hie : i < e) (hes : e ≤ s.size) (hall : ∀ j, i ≤ j → j < e → digB (bAt s j) = true) (hend : ¬ (e < s.size ∧ digB (bAt s e) = true)) :
    lexAt s i = if 9 < e - i then none else some (⟨1, empS, numAt s i (e - i), i⟩, e) := by
  have hr : runTo digB s (i + 1) = e := by rw [runTo_eq (e := e) (by omega) (fun j h1 h2 => hall j (by omega) h2) hes, runTo_stop hend]
  rw [lexAt, if_pos (hall i (by omega) hie), hr]

theorem lexAt_name {s : ByteArray} {i e : Nat} (hie : i < e) (hes : e ≤ s.size) (hd : digB (bAt s i) = false) (hl : letB (bAt s i) = true) (hall : ∀ j, i < j → j < e → inB (bAt s j) = true) (hend : ¬ (e < s.size ∧ inB (bAt s e) = true)) :
    lexAt s i = if 20 < e - i then none else some (⟨if wordB (s.extract i e).toList = true then 3 else 2, s.extract i e, 0, i⟩, e) := by
  have hr : runTo inB s (i + 1) = e := by rw [runTo_eq (e := e) (by omega) (fun j h1 h2 => hall j (by omega) h2) hes, runTo_stop hend]
  rw [lexAt, if_neg (by simp [hd]), if_pos hl, hr]

theorem build_num (n p : Int) (w : World) : (Instr.build 59 #[(0, .int .i64 1), (2, .int .i64 n), (3, .int .i64 p)]).run Try.prog w = .ok (.agg #[.int .i64 1, .string empS, .int .i64 n, .int .i64 p]) w := by kernel_rfl
theorem build_txt (k : Int) (x : ByteArray) (p : Int) (w : World) : (Instr.build 59 #[(0, .int .i64 k), (1, .string x), (3, .int .i64 p)]).run Try.prog w = .ok (.agg #[.int .i64 k, .string x, .int .i64 0, .int .i64 p]) w := by kernel_rfl

set_option maxHeartbeats 4000000 in
theorem implLex_any (s : ByteArray) (w : World) :
    Calls Try.prog 14 #[.string s] w (LexRet s w) := by
  obtain ⟨i0, hI, hz0, hz1, hz2⟩ := info_parts infoTok
  go_enter Try.func14, Try.ntmps14
  go_wp2_with fail
  by_cases hbig : 6000 < s.size
  · refine wp_scope5 (fun _ _ _ => False) (muJ s) rfl rfl rfl rfl rfl (fun _ => ?_) (fun _ _ h => h.elim) (fun _ _ h => h.elim) (fun _ _ h => h.elim) (fun _ _ h => h.elim) (fun _ _ h => h.elim)
    go_wp2
    refine bodyPost_ret (v := .tuple #[.slice none 0 0, .int .i64 0]) (by simp [results, Try.results14, go_sem]) rfl ?_
    have hF : lexF s = ([], 0) := by rw [lexF, if_pos hbig]
    exact ⟨_, by rw [hF], by rw [hF]; exact World.ownsRow_nil _ _ _ _, Below.refl _ _⟩
  have hs6 : s.size ≤ 6000 := by omega
  have hF : lexF s = lexGo s 0 [] := by rw [lexF, if_neg hbig]
  refine wp_scope5 (JJ s w) (muJ s) rfl rfl rfl rfl rfl ?_ ?_ ?_ ?_ ?_ ?_
  · intro hp0
    go_wp2
    go_step3
    simp only [Exit.then]
    rename_i K hK
    refine hK _ _ (hp0 _ _ ?_)
    exact ⟨_, [], 0, _, Com.start s w, frm_of _ rfl⟩
  · rintro a w1 ⟨v, l, i, av, hC, u, rfl⟩
    obtain ⟨hb, hO, hi, hl, hg⟩ := id hC
    by_cases hlt : i < s.size
    · obtain ⟨e, hie, hei⟩ : ∃ e, i < e ∧ e ≤ i + 1 := ⟨i + 1, by omega, by omega⟩
      have n0 : (0 : Int) ≤ (i : Int) := by omega
      have n1 : (i : Int) < (s.size : Int) := by omega
      have n2 : (e : Int) ≤ (s.size : Int) := by omega
      have n3 : (i : Int) ≤ (e : Int) := by omega
      have hne : ((i : Int) == (s.size : Int)) = false := by rw [beq_eq_false_iff_ne]; omega
      go_wp2_with fail
      refine (isWhite_any _ _).mono ?_
      rintro er w2 ⟨rfl, rfl⟩
      rw [show (i : Int) + 1 = (e : Int) from by omega]
      by_cases hw : whiteB (bAt s i) = true
      · have hC1 : Com s w w2 v l e := ⟨hb, hO, by omega, by omega, by rw [← hg, lexGo_white hlt hw, show i + 1 = e from by omega]⟩
        go_wp2
        refine wp_goto ?_
        simp only [Exit.inBlock, Exit.then]
        refine at_goto (n := 5) (by decide) ⟨(⟨v, l, e, _, hC1, frm_of _ rfl⟩ : J0 s w _ _), ?_⟩
        simp [muJ, intOf] <;> omega
      rw [Bool.not_eq_true] at hw
      go_wp2_with fail
      refine (isDigit_any _ _).mono ?_
      rintro er w3 ⟨rfl, rfl⟩
      by_cases hd : digB (bAt s i) = true
      · have hD : ∀ j, i ≤ j → j < e → digB (bAt s j) = true := fun j h1 h2 => by
          have e : j = i := by omega
          rw [e]
          exact hd
        go_wp2
        refine wp_goto ?_
        simp only [Exit.inBlock, Exit.then]
        refine at_goto (n := 5) (by decide) ⟨(⟨v, l, i, e, hC, by omega, by omega, hw, hD, frm_of _ rfl⟩ : J1 s w _ _), ?_⟩
        simp [muJ, intOf] <;> omega
      rw [Bool.not_eq_true] at hd
      go_wp2_with fail
      refine (isLetter_any _ _).mono ?_
      rintro er w4 ⟨rfl, rfl⟩
      by_cases hlb : letB (bAt s i) = true
      · go_wp2
        refine wp_goto ?_
        simp only [Exit.inBlock, Exit.then]
        refine at_goto (n := 5) (by decide) ⟨(⟨v, l, i, e, hC, by omega, by omega, hw, hd, hlb, fun j h1 h2 => by omega, frm_of _ rfl⟩ : J2 s w _ _), ?_⟩
        simp [muJ, intOf] <;> omega
      rw [Bool.not_eq_true] at hlb
      have htp := tOf_piece hlt
      rw [show i + 1 = e from by omega] at htp
      go_wp2_with fail
      refine (implTableOf_any _ _).mono ?_
      rintro er w5 ⟨rfl, rfl⟩
      by_cases ht : tabB' (bAt s i) = true
      · rw [if_pos ht] at htp
        rw [htp]
        have hat : lexAt s i = some (⟨4, s.extract i e, bAt s i - 65, i⟩, e) := by
          simp [lexAt, hd, hlb, ht, show i + 1 = e from by omega]
        have hnn : (0 : Int) ≤ bAt s i - 65 := by
          have := (tabB'_iff _).1 ht
          omega
        have bt := build_tok 4 (s.extract i e) (bAt s i - 65) i
        have hW := hb.size
        go_wp2_with fail
        refine region_last (fun _ => True) (by kernel_rfl) (by kernel_rfl) (by kernel_rfl) trivial (fun hHeld => ?_)
        simp only [List.dropLast, List.length_cons, List.length_nil, Nat.reduceAdd]
        refine takeL (i := 0) (v := ?_) rfl (by kernel_rfl) (by kernel_rfl) (by kernel_rfl) (fun _ _ _ h => h) rfl (by assumption) ?_ ?_
        rotate_left
        · (intro wS hSw; (try dsimp only at hSw); go_simp; try with_reducible rfl)
        (try simp only [Act.put, List.setIfInBounds_toArray, List.set_cons_zero, List.set_cons_succ])
        refine takeL (i := 1) (v := ?_) rfl (by kernel_rfl) (by kernel_rfl) (by kernel_rfl) (fun _ _ _ h => h) rfl (by assumption) ?_ ?_
        rotate_left
        · (intro wS hSw; (try dsimp only at hSw); go_simp; try with_reducible rfl)
        (try simp only [Act.put, List.setIfInBounds_toArray, List.set_cons_zero, List.set_cons_succ])
        refine takeL (i := 2) (v := ?_) rfl (by kernel_rfl) (by kernel_rfl) (by kernel_rfl) (fun _ _ _ h => h) rfl (by assumption) ?_ ?_
        rotate_left
        · (intro wS hSw; (try dsimp only at hSw); go_simp; try with_reducible rfl)
        (try simp only [Act.put, List.setIfInBounds_toArray, List.set_cons_zero, List.set_cons_succ])
        refine takeL (i := 3) (v := ?_) rfl (by kernel_rfl) (by kernel_rfl) (by kernel_rfl) (fun _ _ _ h => h) rfl (by assumption) ?_ ?_
        rotate_left
        · (intro wS hSw; (try dsimp only at hSw); go_simp; try with_reducible rfl)
        (try simp only [Act.put, List.setIfInBounds_toArray, List.set_cons_zero, List.set_cons_succ])
        refine takeL (i := 5) (v := ?_) rfl (by kernel_rfl) (by kernel_rfl) (by kernel_rfl) (fun _ _ _ h => h) rfl (by assumption) ?_ ?_
        rotate_left
        · (intro wS hSw; (try dsimp only at hSw); go_simp; try with_reducible rfl)
        (try simp only [Act.put, List.setIfInBounds_toArray, List.set_cons_zero, List.set_cons_succ])
        refine takeL (i := 6) (v := ?_) rfl (by kernel_rfl) (by kernel_rfl) (by kernel_rfl) (fun _ _ _ h => h) rfl (by assumption) ?_ ?_
        rotate_left
        · (intro wS hSw; (try dsimp only at hSw); go_simp; try with_reducible rfl)
        (try simp only [Act.put, List.setIfInBounds_toArray, List.set_cons_zero, List.set_cons_succ])
        refine takeL (i := 7) (v := ?_) rfl (by kernel_rfl) (by kernel_rfl) (by kernel_rfl) (fun _ _ _ h => h) rfl (by assumption) ?_ ?_
        rotate_left
        · (intro wS hSw; (try dsimp only at hSw); go_simp; try with_reducible rfl)
        (try simp only [Act.put, List.setIfInBounds_toArray, List.set_cons_zero, List.set_cons_succ])
        refine takeL (i := 8) (v := ?_) rfl (by kernel_rfl) (by kernel_rfl) (by kernel_rfl) (fun _ _ _ h => h) rfl (by assumption) ?_ ?_
        rotate_left
        · (intro wS hSw; (try dsimp only at hSw); go_simp; try with_reducible rfl)
        (try simp only [Act.put, List.setIfInBounds_toArray, List.set_cons_zero, List.set_cons_succ])
        refine takeL (i := 10) (v := ?_) rfl (by kernel_rfl) (by kernel_rfl) (by kernel_rfl) (fun _ _ _ h => h) rfl (by assumption) ?_ ?_
        rotate_left
        · (intro wS hSw; (try dsimp only at hSw); go_simp; try with_reducible rfl)
        (try simp only [Act.put, List.setIfInBounds_toArray, List.set_cons_zero, List.set_cons_succ])
        refine stepL (i := 4) rfl (by kernel_rfl) (fun K hK => ?_)
        rw [if_pos (by rfl)]
        go_simp
        refine (textOf_any s i e _ (by omega) (by omega)).mono ?_
        rintro er wq ⟨rfl, hb6⟩
        have hB6 : Below w.heap.size w wq := hb.drew.trans (hb6.mono (by simpa using hW))
        have hO6 : wq.ownsRow w.heap.size 59 4 v l.length (tcells l) := tok_keep (w := w5.drew) hO hb6
        have hW6 := hB6.size
        refine hK.out _ _ trivial (fun hHeld1 => ?_)
        clear hK K
        (try simp only [Act.put, List.setIfInBounds_toArray, List.set_cons_zero, List.set_cons_succ])
        refine stepL (i := 9) rfl (by kernel_rfl) (fun K hK => ?_)
        rw [if_pos (by rfl)]
        go_simp
        refine (implTableOf_any _ _).mono ?_
        rintro er w6 ⟨rfl, rfl⟩
        rw [htp]
        refine hK.out _ _ trivial (fun hHeld1' => ?_)
        clear hK K
        (try simp only [Act.put, List.setIfInBounds_toArray, List.set_cons_zero, List.set_cons_succ])
        refine takeL (i := 11) (v := ?_) rfl (by kernel_rfl) (by kernel_rfl) (by kernel_rfl) (fun _ _ _ h => h) rfl (by assumption) ?_ ?_
        rotate_left
        · (intro wS hSw; (try dsimp only at hSw); go_simp; try with_reducible rfl)
        (try simp only [Act.put, List.setIfInBounds_toArray, List.set_cons_zero, List.set_cons_succ])
        refine stepL (i := 12) rfl (by kernel_rfl) (fun K hK => ?_)
        rw [if_pos (by rfl)]
        go_simp
        refine hK.out _ _ trivial (fun hHeld2 => ?_)
        clear hK K
        (try simp only [Act.put, List.setIfInBounds_toArray, List.set_cons_zero, List.set_cons_succ])
        refine stepL (i := 13) rfl (by kernel_rfl) (fun K hK => ?_)
        refine step_append_lies _ (by rfl) _ _ _ (by rfl) w.heap.size 59 i0 _ 4 40 Try.underlying45 hI hz0 hz1 hz2 rfl (by omega) v l.length (tcells l) (by rfl) (hO6.alloc _) ⟨w6.heap.size, 0, none⟩ 1 1 (tcell ⟨4, s.extract i e, bAt s i - 65, i⟩) (by rfl) (by rfl) (World.news_of_block (heap_new w6 _)) (by simp [tcell, Value.oneCell']) (by omega) (by unfold maxLen; omega) (by omega) (by simp; omega) (w6.heap.size + 1) (by simp) ?_
        intro g7 cap7 w7 hown7 hgrow7 hat7 hlt7
        refine hK.out _ _ trivial (fun hHeld3 => ?_)
        clear hK K
        (try simp only [Act.put, List.setIfInBounds_toArray, List.set_cons_zero, List.set_cons_succ])
        refine wpAnyH_done (by kernel_rfl) ?_ _
        refine lastL (n := 14) rfl rfl ?_
        go_simp
        have hB7 : Below w.heap.size w w7 := (hB6.alloc hB6.size _).grown hgrow7 (by simp; omega) (fun g hg => (hO6.lt g hg).1)
        have hC7 := hC.snoc hlt hw hat (by omega) (by omega) hB7 hown7
        go_wp2
        refine wp_goto ?_
        simp only [Exit.inBlock, Exit.then]
        refine at_goto (n := 5) (by decide) ⟨(⟨_, _, e, _, hC7, frm_of _ rfl⟩ : J0 s w _ _), ?_⟩
        simp [muJ, intOf] <;> omega
      rw [Bool.not_eq_true] at ht
      rw [if_neg (by simp [ht])] at htp
      rw [htp]
      go_wp2_with fail
      refine (isSign_any _ _).mono ?_
      rintro er w6 ⟨rfl, rfl⟩
      by_cases hsg : signB (bAt s i) = true
      · go_wp2
        refine wp_goto ?_
        simp only [Exit.inBlock, Exit.then]
        refine at_goto (n := 5) (by decide) ⟨(⟨v, l, i, e, hC, by omega, by omega, by omega, hw, hd, hlb, ht, hsg, frm_of _ rfl⟩ : J3 s w _ _), ?_⟩
        simp [muJ, intOf] <;> omega
      rw [Bool.not_eq_true] at hsg
      have hat : lexAt s i = none := by simp [lexAt, hd, hlb, ht, hsg]
      have hgn : lexGo s 0 [] = ([], (i : Int)) := by rw [← hg, lexGo_none hlt hw hat]
      go_wp2
      refine wp_goto ?_
      simp only [Exit.then]
      refine at_goto (n := 5) (by decide) ⟨(⟨v, i, _, hb, hgn, frm_of _ rfl⟩ : J4 s w _ _), ?_⟩
      simp [muJ, intOf] <;> omega
    · have hii : i = s.size := by omega
      subst hii
      have hgn : lexGo s 0 [] = (l, -1) := by rw [← hg, lexGo_end (by omega)]
      obtain ⟨oa, om, oc, rfl⟩ : ∃ oa om oc, v = .slice oa om oc := by
        rcases hO.2 with h | ⟨g, cap, cur, h, _⟩
        · exact ⟨_, _, _, h.1⟩
        · exact ⟨_, _, _, h⟩
      go_wp2
      refine bodyPost_ret (v := .tuple #[.slice oa om oc, .int .i64 (-1)]) (by simp [results, Try.results14, go_sem]) rfl ?_
      exact ⟨_, by rw [hF, hgn], by rw [hF, hgn]; exact hO, hb⟩
  · rintro a w5 ⟨v, l, i, e, hC, hie, hes, hw, hall, u, rfl⟩
    obtain ⟨hb, hO, hi, hl, hg⟩ := id hC
    have n2 : (e : Int) ≤ (s.size : Int) := by omega
    have n3 : (i : Int) ≤ (e : Int) := by omega
    have n0 : (0 : Int) ≤ (i : Int) := by omega
    have n4 : (0 : Int) ≤ (e : Int) := by omega
    by_cases hlt : e < s.size
    · have n1 : (e : Int) < (s.size : Int) := by omega
      go_wp2_with fail
      refine (isDigit_any _ _).mono ?_
      rintro er wd ⟨rfl, rfl⟩
      by_cases hd : digB (bAt s e) = true
      · go_wp2
        rw [show (e : Int) + 1 = ((e + 1 : Nat) : Int) from by omega]
        refine wp_goto ?_
        simp only [Exit.then]
        refine at_goto (n := 5) (by decide) ⟨(⟨v, l, i, e + 1, hC, by omega, by omega, hw, fun j h1 h2 => by
          by_cases ej : j = e
          · rw [ej]; exact hd
          · exact hall j h1 (by omega), frm_of _ rfl⟩ : J1 s w _ _), ?_⟩
        simp [muJ, intOf] <;> omega
      rw [Bool.not_eq_true] at hd
      rename World => w5
      have hend : ¬ (e < s.size ∧ digB (bAt s e) = true) := by simp [hd]
      have hat := lexAt_num hie hes hall hend
      by_cases h9 : 9 < e - i
      · have h9' : (9 : Int) < (e : Int) - (i : Int) := by omega
        rw [if_pos h9] at hat
        have hgn : lexGo s 0 [] = ([], (i : Int)) := by rw [← hg, lexGo_none (by omega) hw hat]
        go_wp2
        refine wp_goto ?_
        simp only [Exit.then]
        refine at_goto (n := 5) (by decide) ⟨(⟨v, i, _, hb, hgn, frm_of _ rfl⟩ : J4 s w _ _), ?_⟩
        simp [muJ, intOf] <;> omega
      have h9' : ¬ (9 : Int) < (e : Int) - (i : Int) := by omega
      rw [if_neg h9] at hat
      have hxs := extract_size (s := s) (i := i) (j := e) (by omega) (by omega)
      have hnu := numberOf_any (s.extract i e) w5 (by omega) (fun j hj => by
        rw [extract_at (by omega) (by omega) (by omega)]
        exact hall _ (by omega) (by omega))
      rw [hxs, numAt_extract (by omega) (by omega) _ (Nat.le_refl _)] at hnu
      have bt := build_num (numAt s i (e - i)) i
      have hW6 := hb.size
      go_wp2_with fail
      refine hnu.mono ?_
      rintro er w6 ⟨rfl, rfl⟩
      clear hnu hxs
      have hO6 : w6.ownsRow w.heap.size 59 4 v l.length (tcells l) := hO
      go_wp2_with (at_builtin; refine wpList_append_lies _ rfl _ _ 45 rfl w.heap.size 59 i0 _ 4 40 Try.underlying45 hI hz0 hz1 hz2 rfl (by decide) _ l.length (tcells l) rfl (hO6.alloc _) ⟨w6.heap.size, 0, none⟩ 1 1 (tcell ⟨1, empS, numAt s i (e - i), i⟩) rfl rfl (World.news_of_block (heap_new w6 _)) (by simp [tcell, Value.oneCell']) (by omega) (by unfold maxLen; omega) (by omega) (by simp; omega) (w6.heap.size + 1) (by simp) ?_; intro g7 cap7 w7 hown7 hgrow7 hat7 hlt7)
      have hB7 : Below w.heap.size w w7 := (hb.alloc hb.size _).grown hgrow7 (by simp; omega) (fun g hg => (hO6.lt g hg).1)
      have hC7 := hC.snoc (by omega) hw hat hie hes hB7 hown7
      go_wp2
      refine wp_goto ?_
      simp only [Exit.then]
      refine at_goto (n := 5) (by decide) ⟨(⟨_, _, e, _, hC7, frm_of _ rfl⟩ : J0 s w _ _), ?_⟩
      simp [muJ, intOf] <;> omega
    · have n1 : ¬ (e : Int) < (s.size : Int) := by omega
      have hend : ¬ (e < s.size ∧ digB (bAt s e) = true) := fun h => hlt h.1
      have hat := lexAt_num hie hes hall hend
      by_cases h9 : 9 < e - i
      · have h9' : (9 : Int) < (e : Int) - (i : Int) := by omega
        rw [if_pos h9] at hat
        have hgn : lexGo s 0 [] = ([], (i : Int)) := by rw [← hg, lexGo_none (by omega) hw hat]
        go_wp2
        refine wp_goto ?_
        simp only [Exit.then]
        refine at_goto (n := 5) (by decide) ⟨(⟨v, i, _, hb, hgn, frm_of _ rfl⟩ : J4 s w _ _), ?_⟩
        simp [muJ, intOf] <;> omega
      have h9' : ¬ (9 : Int) < (e : Int) - (i : Int) := by omega
      rw [if_neg h9] at hat
      have hxs := extract_size (s := s) (i := i) (j := e) (by omega) (by omega)
      have hnu := numberOf_any (s.extract i e) w5 (by omega) (fun j hj => by
        rw [extract_at (by omega) (by omega) (by omega)]
        exact hall _ (by omega) (by omega))
      rw [hxs, numAt_extract (by omega) (by omega) _ (Nat.le_refl _)] at hnu
      have bt := build_num (numAt s i (e - i)) i
      have hW6 := hb.size
      go_wp2_with fail
      refine hnu.mono ?_
      rintro er w6 ⟨rfl, rfl⟩
      clear hnu hxs
      have hO6 : w6.ownsRow w.heap.size 59 4 v l.length (tcells l) := hO
      go_wp2_with (at_builtin; refine wpList_append_lies _ rfl _ _ 45 rfl w.heap.size 59 i0 _ 4 40 Try.underlying45 hI hz0 hz1 hz2 rfl (by decide) _ l.length (tcells l) rfl (hO6.alloc _) ⟨w6.heap.size, 0, none⟩ 1 1 (tcell ⟨1, empS, numAt s i (e - i), i⟩) rfl rfl (World.news_of_block (heap_new w6 _)) (by simp [tcell, Value.oneCell']) (by omega) (by unfold maxLen; omega) (by omega) (by simp; omega) (w6.heap.size + 1) (by simp) ?_; intro g7 cap7 w7 hown7 hgrow7 hat7 hlt7)
      have hB7 : Below w.heap.size w w7 := (hb.alloc hb.size _).grown hgrow7 (by simp; omega) (fun g hg => (hO6.lt g hg).1)
      have hC7 := hC.snoc (by omega) hw hat hie hes hB7 hown7
      go_wp2
      refine wp_goto ?_
      simp only [Exit.then]
      refine at_goto (n := 5) (by decide) ⟨(⟨_, _, e, _, hC7, frm_of _ rfl⟩ : J0 s w _ _), ?_⟩
      simp [muJ, intOf] <;> omega
  · rintro a w5 ⟨v, l, i, e, hC, hie, hes, hw, hd, hlb, hall, u, rfl⟩
    obtain ⟨hb, hO, hi, hl, hg⟩ := id hC
    have n2 : (e : Int) ≤ (s.size : Int) := by omega
    have n3 : (i : Int) ≤ (e : Int) := by omega
    have n0 : (0 : Int) ≤ (i : Int) := by omega
    have n4 : (0 : Int) ≤ (e : Int) := by omega
    by_cases hlt : e < s.size
    · have n1 : (e : Int) < (s.size : Int) := by omega
      go_wp2_with fail
      refine (isNameByte_any _ _).mono ?_
      rintro er wd ⟨rfl, rfl⟩
      by_cases hin : inB (bAt s e) = true
      · go_wp2
        rw [show (e : Int) + 1 = ((e + 1 : Nat) : Int) from by omega]
        refine wp_goto ?_
        simp only [Exit.then]
        refine at_goto (n := 5) (by decide) ⟨(⟨v, l, i, e + 1, hC, by omega, by omega, hw, hd, hlb, fun j h1 h2 => by
          by_cases ej : j = e
          · rw [ej]; exact hin
          · exact hall j h1 (by omega), frm_of _ rfl⟩ : J2 s w _ _), ?_⟩
        simp [muJ, intOf]
        omega
      rw [Bool.not_eq_true] at hin
      rename World => w5
      have hend : ¬ (e < s.size ∧ inB (bAt s e) = true) := by simp [hin]
      have hat := lexAt_name hie hes hd hlb hall hend
      by_cases h9 : 20 < e - i
      · have h9' : (20 : Int) < (e : Int) - (i : Int) := by omega
        rw [if_pos h9] at hat
        have hgn : lexGo s 0 [] = ([], (i : Int)) := by rw [← hg, lexGo_none (by omega) hw hat]
        go_wp2
        refine wp_goto ?_
        simp only [Exit.then]
        refine at_goto (n := 5) (by decide) ⟨(⟨v, i, _, hb, hgn, frm_of _ rfl⟩ : J4 s w _ _), ?_⟩
        simp [muJ, intOf] <;> omega
      have h9' : ¬ (20 : Int) < (e : Int) - (i : Int) := by omega
      rw [if_neg h9] at hat
      have hnu := nameKind_any (s.extract i e) w5
      generalize (if wordB (s.extract i e).toList = true then (3 : Int) else 2) = kk at hat hnu
      have bt := build_txt kk (s.extract i e) i
      go_wp2_with fail
      refine hnu.mono ?_
      rintro er wz ⟨rfl, rfl⟩
      clear hnu
      go_wp2_with fail
      refine (textOf_any s i e _ (by omega) (by omega)).mono ?_
      rintro er w6 ⟨rfl, hb6⟩
      have hB6 : Below w.heap.size w w6 := hb.trans (hb6.mono hb.size)
      have hO6 : w6.ownsRow w.heap.size 59 4 v l.length (tcells l) := tok_keep hO hb6
      have hW6 := hB6.size
      go_wp2_with (at_builtin; refine wpList_append_lies _ rfl _ _ 45 rfl w.heap.size 59 i0 _ 4 40 Try.underlying45 hI hz0 hz1 hz2 rfl (by decide) _ l.length (tcells l) rfl (hO6.alloc _) ⟨w6.heap.size, 0, none⟩ 1 1 (tcell ⟨kk, s.extract i e, 0, i⟩) rfl rfl (World.news_of_block (heap_new w6 _)) (by simp [tcell, Value.oneCell']) (by omega) (by unfold maxLen; omega) (by omega) (by simp; omega) (w6.heap.size + 1) (by simp) ?_; intro g7 cap7 w7 hown7 hgrow7 hat7 hlt7)
      have hB7 : Below w.heap.size w w7 := (hB6.alloc hB6.size _).grown hgrow7 (by simp; omega) (fun g hg => (hO6.lt g hg).1)
      have hC7 := hC.snoc (by omega) hw hat hie hes hB7 hown7
      go_wp2
      refine wp_goto ?_
      simp only [Exit.then]
      refine at_goto (n := 5) (by decide) ⟨(⟨_, _, e, _, hC7, frm_of _ rfl⟩ : J0 s w _ _), ?_⟩
      simp [muJ, intOf] <;> omega
    · have n1 : ¬ (e : Int) < (s.size : Int) := by omega
      have hend : ¬ (e < s.size ∧ inB (bAt s e) = true) := fun h => hlt h.1
      have hat := lexAt_name hie hes hd hlb hall hend
      by_cases h9 : 20 < e - i
      · have h9' : (20 : Int) < (e : Int) - (i : Int) := by omega
        rw [if_pos h9] at hat
        have hgn : lexGo s 0 [] = ([], (i : Int)) := by rw [← hg, lexGo_none (by omega) hw hat]
        go_wp2
        refine wp_goto ?_
        simp only [Exit.then]
        refine at_goto (n := 5) (by decide) ⟨(⟨v, i, _, hb, hgn, frm_of _ rfl⟩ : J4 s w _ _), ?_⟩
        simp [muJ, intOf] <;> omega
      have h9' : ¬ (20 : Int) < (e : Int) - (i : Int) := by omega
      rw [if_neg h9] at hat
      have hnu := nameKind_any (s.extract i e) w5
      generalize (if wordB (s.extract i e).toList = true then (3 : Int) else 2) = kk at hat hnu
      have bt := build_txt kk (s.extract i e) i
      go_wp2_with fail
      refine hnu.mono ?_
      rintro er wz ⟨rfl, rfl⟩
      clear hnu
      go_wp2_with fail
      refine (textOf_any s i e _ (by omega) (by omega)).mono ?_
      rintro er w6 ⟨rfl, hb6⟩
      have hB6 : Below w.heap.size w w6 := hb.trans (hb6.mono hb.size)
      have hO6 : w6.ownsRow w.heap.size 59 4 v l.length (tcells l) := tok_keep hO hb6
      have hW6 := hB6.size
      go_wp2_with (at_builtin; refine wpList_append_lies _ rfl _ _ 45 rfl w.heap.size 59 i0 _ 4 40 Try.underlying45 hI hz0 hz1 hz2 rfl (by decide) _ l.length (tcells l) rfl (hO6.alloc _) ⟨w6.heap.size, 0, none⟩ 1 1 (tcell ⟨kk, s.extract i e, 0, i⟩) rfl rfl (World.news_of_block (heap_new w6 _)) (by simp [tcell, Value.oneCell']) (by omega) (by unfold maxLen; omega) (by omega) (by simp; omega) (w6.heap.size + 1) (by simp) ?_; intro g7 cap7 w7 hown7 hgrow7 hat7 hlt7)
      have hB7 : Below w.heap.size w w7 := (hB6.alloc hB6.size _).grown hgrow7 (by simp; omega) (fun g hg => (hO6.lt g hg).1)
      have hC7 := hC.snoc (by omega) hw hat hie hes hB7 hown7
      go_wp2
      refine wp_goto ?_
      simp only [Exit.then]
      refine at_goto (n := 5) (by decide) ⟨(⟨_, _, e, _, hC7, frm_of _ rfl⟩ : J0 s w _ _), ?_⟩
      simp [muJ, intOf] <;> omega
  · rintro a w5 ⟨v, l, i, e, hC, hie, hei, hes, hw, hd, hlb, ht, hsg, u, rfl⟩
    obtain ⟨hb, hO, hi, hl, hg⟩ := id hC
    have n2 : (e : Int) ≤ (s.size : Int) := by omega
    have n3 : (i : Int) ≤ (e : Int) := by omega
    have n0 : (0 : Int) ≤ (i : Int) := by omega
    have n4 : (0 : Int) ≤ (e : Int) := by omega
    have n5 : (i : Int) < (s.size : Int) := by omega
    have hee : i + 1 = e := by omega
    by_cases h61 : bAt s i = 61
    · have g1 : (bAt s i == 61) = true := by simpa using h61
      by_cases hlt : e < s.size
      · have n1 : (e : Int) < (s.size : Int) := by omega
        by_cases h62 : bAt s e = 61
        · have g2 : (bAt s e == 61) = true := by simpa using h62
          have hat : lexAt s i = some (⟨5, s.extract i (e + 1), 0, i⟩, e + 1) := by
            rw [lexAt, if_neg (by simp [hd]), if_neg (by simp [hlb]), if_neg (by simp [ht]), if_pos hsg, if_pos ⟨h61, by omega, by rw [hee]; exact h62⟩, show i + 2 = e + 1 from by omega]
          clear h61 h62 hee
          have n6 : (e : Int) + 1 ≤ (s.size : Int) := by omega
          have bt := build_txt 5 (s.extract i (e + 1)) i
          go_wp2_with fail
          rw [show (e : Int) + 1 = ((e + 1 : Nat) : Int) from by omega]
          refine (textOf_any s i (e + 1) _ (by omega) (by omega)).mono ?_
          rintro er w6 ⟨rfl, hb6⟩
          have hB6 : Below w.heap.size w w6 := hb.trans (hb6.mono hb.size)
          have hO6 : w6.ownsRow w.heap.size 59 4 v l.length (tcells l) := tok_keep hO hb6
          have hW6 := hB6.size
          go_wp2_with (at_builtin; refine wpList_append_lies _ rfl _ _ 45 rfl w.heap.size 59 i0 _ 4 40 Try.underlying45 hI hz0 hz1 hz2 rfl (by decide) _ l.length (tcells l) rfl (hO6.alloc _) ⟨w6.heap.size, 0, none⟩ 1 1 (tcell ⟨5, s.extract i (e + 1), 0, i⟩) rfl rfl (World.news_of_block (heap_new w6 _)) (by simp [tcell, Value.oneCell']) (by omega) (by unfold maxLen; omega) (by omega) (by simp; omega) (w6.heap.size + 1) (by simp) ?_; intro g7 cap7 w7 hown7 hgrow7 hat7 hlt7)
          have hB7 : Below w.heap.size w w7 := (hB6.alloc hB6.size _).grown hgrow7 (by simp; omega) (fun g hg => (hO6.lt g hg).1)
          have hC7 := hC.snoc (by omega) hw hat (by omega) (by omega) hB7 hown7
          go_wp2
          try rw [show (e : Int) + 1 = ((e + 1 : Nat) : Int) from by omega]
          refine wp_goto ?_
          simp only [Exit.then]
          refine at_goto (n := 5) (by decide) ⟨(⟨_, _, (e + 1), _, hC7, frm_of _ rfl⟩ : J0 s w _ _), ?_⟩
          simp [muJ, intOf] <;> omega
        · have g2 : (bAt s e == 61) = false := by simpa using h62
          have hat : lexAt s i = some (⟨5, s.extract i e, 0, i⟩, e) := by
            rw [lexAt, if_neg (by simp [hd]), if_neg (by simp [hlb]), if_neg (by simp [ht]), if_pos hsg, if_neg (fun h => h62 (by rw [← hee]; exact h.2.2)), hee]
          clear h61 h62 hee
          have bt := build_txt 5 (s.extract i e) i
          go_wp2_with fail
          refine (textOf_any s i e _ (by omega) (by omega)).mono ?_
          rintro er w6 ⟨rfl, hb6⟩
          have hB6 : Below w.heap.size w w6 := hb.trans (hb6.mono hb.size)
          have hO6 : w6.ownsRow w.heap.size 59 4 v l.length (tcells l) := tok_keep hO hb6
          have hW6 := hB6.size
          go_wp2_with (at_builtin; refine wpList_append_lies _ rfl _ _ 45 rfl w.heap.size 59 i0 _ 4 40 Try.underlying45 hI hz0 hz1 hz2 rfl (by decide) _ l.length (tcells l) rfl (hO6.alloc _) ⟨w6.heap.size, 0, none⟩ 1 1 (tcell ⟨5, s.extract i e, 0, i⟩) rfl rfl (World.news_of_block (heap_new w6 _)) (by simp [tcell, Value.oneCell']) (by omega) (by unfold maxLen; omega) (by omega) (by simp; omega) (w6.heap.size + 1) (by simp) ?_; intro g7 cap7 w7 hown7 hgrow7 hat7 hlt7)
          have hB7 : Below w.heap.size w w7 := (hB6.alloc hB6.size _).grown hgrow7 (by simp; omega) (fun g hg => (hO6.lt g hg).1)
          have hC7 := hC.snoc (by omega) hw hat (by omega) (by omega) hB7 hown7
          go_wp2
          refine wp_goto ?_
          simp only [Exit.then]
          refine at_goto (n := 5) (by decide) ⟨(⟨_, _, e, _, hC7, frm_of _ rfl⟩ : J0 s w _ _), ?_⟩
          simp [muJ, intOf] <;> omega
      · have n1 : ¬ (e : Int) < (s.size : Int) := by omega
        have hat : lexAt s i = some (⟨5, s.extract i e, 0, i⟩, e) := by
          rw [lexAt, if_neg (by simp [hd]), if_neg (by simp [hlb]), if_neg (by simp [ht]), if_pos hsg, if_neg (fun h => hlt (by rw [← hee]; exact h.2.1)), hee]
        clear h61 hee
        have bt := build_txt 5 (s.extract i e) i
        go_wp2_with fail
        refine (textOf_any s i e _ (by omega) (by omega)).mono ?_
        rintro er w6 ⟨rfl, hb6⟩
        have hB6 : Below w.heap.size w w6 := hb.trans (hb6.mono hb.size)
        have hO6 : w6.ownsRow w.heap.size 59 4 v l.length (tcells l) := tok_keep hO hb6
        have hW6 := hB6.size
        go_wp2_with (at_builtin; refine wpList_append_lies _ rfl _ _ 45 rfl w.heap.size 59 i0 _ 4 40 Try.underlying45 hI hz0 hz1 hz2 rfl (by decide) _ l.length (tcells l) rfl (hO6.alloc _) ⟨w6.heap.size, 0, none⟩ 1 1 (tcell ⟨5, s.extract i e, 0, i⟩) rfl rfl (World.news_of_block (heap_new w6 _)) (by simp [tcell, Value.oneCell']) (by omega) (by unfold maxLen; omega) (by omega) (by simp; omega) (w6.heap.size + 1) (by simp) ?_; intro g7 cap7 w7 hown7 hgrow7 hat7 hlt7)
        have hB7 : Below w.heap.size w w7 := (hB6.alloc hB6.size _).grown hgrow7 (by simp; omega) (fun g hg => (hO6.lt g hg).1)
        have hC7 := hC.snoc (by omega) hw hat (by omega) (by omega) hB7 hown7
        go_wp2
        refine wp_goto ?_
        simp only [Exit.then]
        refine at_goto (n := 5) (by decide) ⟨(⟨_, _, e, _, hC7, frm_of _ rfl⟩ : J0 s w _ _), ?_⟩
        simp [muJ, intOf] <;> omega
    · have g1 : (bAt s i == 61) = false := by simpa using h61
      have hat : lexAt s i = some (⟨5, s.extract i e, 0, i⟩, e) := by
        rw [lexAt, if_neg (by simp [hd]), if_neg (by simp [hlb]), if_neg (by simp [ht]), if_pos hsg, if_neg (fun h => h61 h.1), hee]
      clear h61 hee
      have bt := build_txt 5 (s.extract i e) i
      go_wp2_with fail
      refine (textOf_any s i e _ (by omega) (by omega)).mono ?_
      rintro er w6 ⟨rfl, hb6⟩
      have hB6 : Below w.heap.size w w6 := hb.trans (hb6.mono hb.size)
      have hO6 : w6.ownsRow w.heap.size 59 4 v l.length (tcells l) := tok_keep hO hb6
      have hW6 := hB6.size
      go_wp2_with (at_builtin; refine wpList_append_lies _ rfl _ _ 45 rfl w.heap.size 59 i0 _ 4 40 Try.underlying45 hI hz0 hz1 hz2 rfl (by decide) _ l.length (tcells l) rfl (hO6.alloc _) ⟨w6.heap.size, 0, none⟩ 1 1 (tcell ⟨5, s.extract i e, 0, i⟩) rfl rfl (World.news_of_block (heap_new w6 _)) (by simp [tcell, Value.oneCell']) (by omega) (by unfold maxLen; omega) (by omega) (by simp; omega) (w6.heap.size + 1) (by simp) ?_; intro g7 cap7 w7 hown7 hgrow7 hat7 hlt7)
      have hB7 : Below w.heap.size w w7 := (hB6.alloc hB6.size _).grown hgrow7 (by simp; omega) (fun g hg => (hO6.lt g hg).1)
      have hC7 := hC.snoc (by omega) hw hat (by omega) (by omega) hB7 hown7
      go_wp2
      refine wp_goto ?_
      simp only [Exit.then]
      refine at_goto (n := 5) (by decide) ⟨(⟨_, _, e, _, hC7, frm_of _ rfl⟩ : J0 s w _ _), ?_⟩
      simp [muJ, intOf] <;> omega
  · rintro a w1 ⟨v, i, ev, hb, hg, u, rfl⟩
    go_wp2
    refine bodyPost_ret (v := .tuple #[.slice none 0 0, .int .i64 i]) (by simp [results, Try.results14, go_sem]) rfl ?_
    exact ⟨_, by rw [hF, hg], by rw [hF, hg]; exact World.ownsRow_nil _ _ _ _, hb⟩
end Go.Proofs.Ytkdlgglikhbnkac
