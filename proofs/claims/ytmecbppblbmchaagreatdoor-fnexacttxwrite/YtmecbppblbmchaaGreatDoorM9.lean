import Derived.Test.YtmecbppblbmchaaGreatDoorM8
import Derived.Test.YtmecbppblbmchaaGreatDoorOwnTs
/- Marks: markTxS, markEvS, markMgr. -/
namespace Go.Proofs.YtmecbppblbmchaaGreatDoor
open Go.ChangeShapes Go.WideShapes Go.ChangeAt Go.RowKit Go.Sort
set_option linter.unusedVariables false
set_option maxRecDepth 100000
attribute [local go_sem ↓] Go.wp_at_zero Go.wp_at_succ

/-- A list that may be written. -/
def Rr (w : World) (T : TypeId) (s : Nat) (v : Value) (n : Nat) : Prop := (v = .slice none 0 0 ∧ n = 0) ∨ ∃ g c f, v = .slice (some ⟨g, 0, none⟩) n c ∧ RowOf w g T (n * s) f
/-- A list that bears the marks from k on. -/
def Kr (w : World) (T : TypeId) (s : Nat) (v : Value) (n k : Nat) : Prop := (v = .slice none 0 0 ∧ n = 0) ∨ ∃ g c, v = .slice (some ⟨g, 0, none⟩) n c ∧ RowOf w g T (n * s) (fun j => .int .i64 ((k + j : Nat) : Int))
theorem Rr.keep {w w' : World} {T : TypeId} {s : Nat} {v : Value} {n : Nat} (h : Rr w T s v n) (hk : ∀ g, v.ownBlock = some g → g < w.heap.size → w'.heap[g]? = w.heap[g]?) : Rr w' T s v n := by
  rcases h with h | ⟨g, c, f, rfl, h⟩
  · exact .inl h
  · exact .inr ⟨g, c, f, rfl, h.of_block (hk g rfl h.lt)⟩
theorem Kr.keep {w w' : World} {T : TypeId} {s : Nat} {v : Value} {n k : Nat} (h : Kr w T s v n k) (hk : ∀ g, v.ownBlock = some g → g < w.heap.size → w'.heap[g]? = w.heap[g]?) : Kr w' T s v n k := by
  rcases h with h | ⟨g, c, rfl, h⟩
  · exact .inl h
  · exact .inr ⟨g, c, rfl, h.of_block (hk g rfl h.lt)⟩
theorem Rr.of_owns {w : World} {base : Nat} {T : TypeId} {s : Nat} {v : Value} {n : Nat} {xs : List Value} (h : w.ownsRow base T s v n xs) : Rr w T s v n := by
  obtain ⟨h1, h2⟩ := h
  rcases h2 with ⟨rfl, h3⟩ | ⟨g, cap, cur, rfl, h4, h5, h6, h7, h8, h9⟩
  · exact .inl ⟨rfl, h3⟩
  · have hle : n * s ≤ cur.size := by rw [h8]; exact Nat.mul_le_mul_right s h6
    refine .inr ⟨g, cap, fun j => (cur[j]?).getD (.int .i64 0), rfl, ⟨cur, h5, hle, fun j hj => ?_⟩⟩
    have hjc : j < cur.size := by omega
    simp [hjc]

theorem markRowS_rr (v : Value) (n : Nat) (x : Int) (k : Nat) (hx : x = (k : Int)) (w : World) (h : Rr w 111 3 v n) (hn : n ≤ 1048580) (hk : k ≤ 4611686018427387904) :
    Calls Tryz.prog 76 #[v, .int .i64 x] w fun e w' => e = .returned (.int .i64 ((k + 3 * n : Nat) : Int)) ∧ Wrote (fun b => v.ownBlock = some b) w w' ∧ Kr w' 111 3 v n k := by
  subst hx
  rcases h with ⟨rfl, rfl⟩ | ⟨B, c, g, rfl, hr⟩
  · go_enter Tryz.func76, Tryz.ntmps76
    go_wp2
    refine wp_loop_rounds 1 ?_
    rw [rounds_succ]
    go_wp2
    go_ret
    exact ⟨rfl, Wrote.refl _ _, .inl ⟨rfl, rfl⟩⟩
  · have hbase : (Value.slice (some ⟨B, 0, none⟩) n c).ownBlock = some B := rfl
    generalize hP : (fun b => (Value.slice (some ⟨B, 0, none⟩) n c).ownBlock = some b) = P
    have hPB : P B := by rw [← hP]; exact hbase
    clear hP hbase
    go_enter Tryz.func76, Tryz.ntmps76
    go_wp2
    go_loopw [1, 5] (fun x i wr => ∃ (q : Nat) (g' : Nat → Value), q ≤ n ∧ i = .int .i64 q ∧ x = .int .i64 ((k + 3 * q : Nat) : Int) ∧ Wrote P w wr ∧ RowOf wr B 111 (n * 3) g' ∧ ∀ j, j < 3 * q → g' j = .int .i64 ((k + j : Nat) : Int)) (fun _ i _ => n - (intOf i).toNat)
    case atStart => exact ⟨0, g, Nat.zero_le _, rfl, rfl, Wrote.refl _ _, hr, fun j hj => absurd hj (by omega)⟩
    case round =>
      obtain ⟨q, g', hq, rfl, rfl, hw, hrow, hg⟩ := hrel
      by_cases hlt : q < n
      · have z0 := hrow.cell (show q * 3 < n * 3 by omega)
        have z1 := hrow.frozen (q * 3)
        have z2 := hrow.cell (show q * 3 + 1 < n * 3 by omega)
        have z3 := hrow.frozen (q * 3 + 1)
        have z4 := hrow.cell (show q * 3 + 2 < n * 3 by omega)
        have z5 := hrow.frozen (q * 3 + 2)
        go_wp2
        go_roundw
        case rel =>
          refine ⟨q + 1, _, by omega, by go_num, ?_, ((hw.setCell hPB _).setCell hPB _).setCell hPB _, ((hrow.set _ _).set _ _).set _ _, fun j hj => ?_⟩
          · congr 1
          · by_cases e2 : j = q * 3 + 2
            · subst e2; simp; omega
            · by_cases e1 : j = q * 3 + 1
              · subst e1; simp; omega
              · by_cases e0 : j = q * 3
                · subst e0; simp; omega
                · simp only [if_neg e2, if_neg e1, if_neg e0]; exact hg j (by omega)
        case measure => simp [intOf]; omega
      · have hqm : q = n := by omega
        subst hqm
        go_wp2
        go_ret
        exact ⟨rfl, hw, .inr ⟨B, c, rfl, hrow.congr fun j hj => hg j (by omega)⟩⟩

set_option maxHeartbeats 1000000 in
theorem markEvS_rr (v : Value) (n : Nat) (x : Int) (k : Nat) (hx : x = (k : Int)) (w : World) (h : Rr w 101 6 v n) (hn : n ≤ 1048580) (hk : k ≤ 4611686018427387904) :
    Calls Tryz.prog 41 #[v, .int .i64 x] w fun e w' => e = .returned (.int .i64 ((k + 6 * n : Nat) : Int)) ∧ Wrote (fun b => v.ownBlock = some b) w w' ∧ Kr w' 101 6 v n k := by
  subst hx
  rcases h with ⟨rfl, rfl⟩ | ⟨B, c, g, rfl, hr⟩
  · go_enter Tryz.func41, Tryz.ntmps41
    go_wp2
    refine wp_loop_rounds 1 ?_
    rw [rounds_succ]
    go_wp2
    go_ret
    exact ⟨rfl, Wrote.refl _ _, .inl ⟨rfl, rfl⟩⟩
  · have hbase : (Value.slice (some ⟨B, 0, none⟩) n c).ownBlock = some B := rfl
    generalize hP : (fun b => (Value.slice (some ⟨B, 0, none⟩) n c).ownBlock = some b) = P
    have hPB : P B := by rw [← hP]; exact hbase
    clear hP hbase
    go_enter Tryz.func41, Tryz.ntmps41
    go_wp2
    go_loopw [1, 5] (fun x i wr => ∃ (q : Nat) (g' : Nat → Value), q ≤ n ∧ i = .int .i64 q ∧ x = .int .i64 ((k + 6 * q : Nat) : Int) ∧ Wrote P w wr ∧ RowOf wr B 101 (n * 6) g' ∧ ∀ j, j < 6 * q → g' j = .int .i64 ((k + j : Nat) : Int)) (fun _ i _ => n - (intOf i).toNat)
    case atStart => exact ⟨0, g, Nat.zero_le _, rfl, rfl, Wrote.refl _ _, hr, fun j hj => absurd hj (by omega)⟩
    case round =>
      obtain ⟨q, g', hq, rfl, rfl, hw, hrow, hg⟩ := hrel
      by_cases hlt : q < n
      · have z0 := hrow.cell (show q * 6 < n * 6 by omega)
        have z1 := hrow.frozen (q * 6)
        have z2 := hrow.cell (show q * 6 + 1 < n * 6 by omega)
        have z3 := hrow.frozen (q * 6 + 1)
        have z4 := hrow.cell (show q * 6 + 2 < n * 6 by omega)
        have z5 := hrow.frozen (q * 6 + 2)
        have z6 := hrow.cell (show q * 6 + 3 < n * 6 by omega)
        have z7 := hrow.frozen (q * 6 + 3)
        have z8 := hrow.cell (show q * 6 + 4 < n * 6 by omega)
        have z9 := hrow.frozen (q * 6 + 4)
        have za := hrow.cell (show q * 6 + 5 < n * 6 by omega)
        have zb := hrow.frozen (q * 6 + 5)
        go_wp2
        go_roundw
        case rel =>
          refine ⟨q + 1, _, by omega, by go_num, ?_, (((((hw.setCell hPB _).setCell hPB _).setCell hPB _).setCell hPB _).setCell hPB _).setCell hPB _, (((((hrow.set _ _).set _ _).set _ _).set _ _).set _ _).set _ _, fun j hj => ?_⟩
          · congr 1
          · by_cases e5 : j = q * 6 + 5
            · subst e5; simp; omega
            · by_cases e4 : j = q * 6 + 4
              · subst e4; simp; omega
              · by_cases e3 : j = q * 6 + 3
                · subst e3; simp; omega
                · by_cases e2 : j = q * 6 + 2
                  · subst e2; simp; omega
                  · by_cases e1 : j = q * 6 + 1
                    · subst e1; simp; omega
                    · by_cases e0 : j = q * 6
                      · subst e0; simp only [if_neg (show ¬ q * 6 = q * 6 + 2 + 1 by omega)]; simp; omega
                      · simp only [if_neg e5, if_neg e4, if_neg e3, if_neg e2, if_neg e1, if_neg e0]; exact hg j (by omega)
        case measure => simp [intOf]; omega
      · have hqm : q = n := by omega
        subst hqm
        go_wp2
        go_ret
        exact ⟨rfl, hw, .inr ⟨B, c, rfl, hrow.congr fun j hj => hg j (by omega)⟩⟩

def tk (ln : Nat → Nat) : Nat → Nat
  | 0 => 0
  | i + 1 => tk ln i + 2 + 3 * ln i
theorem tk_le {ln : Nat → Nat} {n : Nat} (hl : ∀ i, i < n → ln i ≤ 1048580) : ∀ i, i ≤ n → tk ln i ≤ i * 3145742
  | 0, _ => by simp [tk]
  | i + 1, h => by have := tk_le hl i (by omega); have := hl i (by omega); simp only [tk]; omega
/-- The transactions and what they have written, to be written. -/
def TxW (w : World) (vt : Value) (n : Nat) (wv : Nat → Value) (ln : Nat → Nat) : Prop :=
  (vt = .slice none 0 0 ∧ n = 0) ∨ ∃ g c f, vt = .slice (some ⟨g, 0, none⟩) n c ∧ RowOf w g 97 (n * 3) f ∧ (∀ i, i < n → f (i * 3 + 2) = wv i) ∧ (∀ i, i < n → Rr w 111 3 (wv i) (ln i)) ∧ (∀ i, i < n → (wv i).ownBlock ≠ some g) ∧ ∀ i j, i < n → j < n → i ≠ j → ∀ b, (wv i).ownBlock = some b → (wv j).ownBlock ≠ some b
/-- They bear the marks from k on. -/
def TxK (w : World) (vt : Value) (n : Nat) (wv : Nat → Value) (ln : Nat → Nat) (k : Nat) : Prop :=
  (vt = .slice none 0 0 ∧ n = 0) ∨ ∃ g c f, vt = .slice (some ⟨g, 0, none⟩) n c ∧ RowOf w g 97 (n * 3) f ∧ ∀ i, i < n → f (i * 3) = .int .i64 ((k + tk ln i : Nat) : Int) ∧ f (i * 3 + 1) = .int .i64 ((k + tk ln i + 1 : Nat) : Int) ∧ f (i * 3 + 2) = wv i ∧ Kr w 111 3 (wv i) (ln i) (k + tk ln i + 2)

set_option maxHeartbeats 1000000 in
theorem markTxS_rr (vt : Value) (n : Nat) (wv : Nat → Value) (ln : Nat → Nat) (x : Int) (k : Nat) (hx : x = (k : Int)) (w : World) (h : TxW w vt n wv ln) (hn : n ≤ 1048580) (hl : ∀ i, i < n → ln i ≤ 1048580) (hk : k ≤ 1000000000000000000) :
    Calls Tryz.prog 40 #[vt, .int .i64 x] w fun e w' => e = .returned (.int .i64 ((k + tk ln n : Nat) : Int)) ∧ Wrote (fun b => vt.ownBlock = some b ∨ ∃ i, i < n ∧ (wv i).ownBlock = some b) w w' ∧ TxK w' vt n wv ln k := by
  subst hx
  rcases h with ⟨rfl, rfl⟩ | ⟨B, c, f, rfl, hr, hf, hw0, ha, hap⟩
  · go_enter Tryz.func40, Tryz.ntmps40
    go_wp2
    refine wp_loop_rounds 1 ?_
    rw [rounds_succ]
    go_wp2
    go_ret
    exact ⟨rfl, Wrote.refl _ _, .inl ⟨rfl, rfl⟩⟩
  · have hPB : (Value.slice (some ⟨B, 0, none⟩) n c).ownBlock = some B ∨ ∃ i, i < n ∧ (wv i).ownBlock = some B := .inl rfl
    have hPW : ∀ i, i < n → ∀ b, (wv i).ownBlock = some b → (Value.slice (some ⟨B, 0, none⟩) n c).ownBlock = some b ∨ ∃ i, i < n ∧ (wv i).ownBlock = some b := fun i hi b hb => .inr ⟨i, hi, hb⟩
    generalize hP : (fun b => (Value.slice (some ⟨B, 0, none⟩) n c).ownBlock = some b ∨ ∃ i, i < n ∧ (wv i).ownBlock = some b) = P
    replace hPB : P B := by rw [← hP]; exact hPB
    replace hPW : ∀ i, i < n → ∀ b, (wv i).ownBlock = some b → P b := by rw [← hP]; exact hPW
    clear hP
    go_enter Tryz.func40, Tryz.ntmps40
    go_wp2
    go_loopw [1, 5] (fun x i wr => ∃ (q : Nat) (f' : Nat → Value), q ≤ n ∧ i = .int .i64 q ∧ x = .int .i64 ((k + tk ln q : Nat) : Int) ∧ Wrote P w wr ∧ RowOf wr B 97 (n * 3) f' ∧ (∀ i, i < n → f' (i * 3 + 2) = wv i) ∧ (∀ i, i < n → q ≤ i → Rr wr 111 3 (wv i) (ln i)) ∧ ∀ i, i < q → f' (i * 3) = .int .i64 ((k + tk ln i : Nat) : Int) ∧ f' (i * 3 + 1) = .int .i64 ((k + tk ln i + 1 : Nat) : Int) ∧ Kr wr 111 3 (wv i) (ln i) (k + tk ln i + 2)) (fun _ i _ => n - (intOf i).toNat)
    case atStart => exact ⟨0, f, Nat.zero_le _, rfl, by simp [tk], Wrote.refl _ _, hr, hf, fun i hi _ => hw0 i hi, fun i hi => absurd hi (Nat.not_lt_zero _)⟩
    case round =>
      rename World => wo
      clear hr hf hw0
      obtain ⟨q, f', hq, rfl, rfl, hw, hrow, hf, hrest, hg⟩ := hrel
      by_cases hlt : q < n
      · have z0 := hrow.cell (show q * 3 < n * 3 by omega)
        have z1 := hrow.frozen (q * 3)
        have z2 := hrow.cell (show q * 3 + 1 < n * 3 by omega)
        have z3 := hrow.frozen (q * 3 + 1)
        have z4 := hrow.cell (show q * 3 + 2 < n * 3 by omega)
        rw [hf q hlt] at z4
        have hb := tk_le (n := n) hl q (by omega)
        have hlq := hl q hlt
        have hrq := hrest q hlt (Nat.le_refl _)
        go_wp2_with fail
        refine (markRowS_rr (wv q) (ln q) _ (k + tk ln q + 2) (by push_cast; omega) _ (hrq.keep fun g hg hl' => by rw [Below.heap_setCell _ _ _ _ (fun e => ha q hlt (by rw [hg]; exact congrArg some e)), Below.heap_setCell _ _ _ _ (fun e => ha q hlt (by rw [hg]; exact congrArg some e))]) hlq (by omega)).mono ?_
        rintro e w2 ⟨rfl, hW2, hK2⟩
        have hkp : ∀ b, b ≠ B → (wv q).ownBlock ≠ some b → w2.heap[b]? = wo.heap[b]? := fun b h1 h2 => (hW2.block b h2).trans (by rw [Below.heap_setCell _ _ _ _ h1, Below.heap_setCell _ _ _ _ h1])
        have hrow2 := (((hrow.set (q * 3) (.int .i64 (↑k + ↑(tk ln q)))).set (q * 3 + 1) (.int .i64 (↑k + ↑(tk ln q) + 1)))).of_block (hW2.block B (ha q hlt))
        have hw2 := ((hw.setCell (x := ⟨B, q * 3, none⟩) hPB (.int .i64 (↑k + ↑(tk ln q)))).setCell (x := ⟨B, q * 3 + 1, none⟩) hPB (.int .i64 (↑k + ↑(tk ln q) + 1))).trans (hW2.imp fun b hb => hPW q hlt b hb)
        go_wp2
        go_roundw
        case rel =>
          refine ⟨q + 1, _, by omega, by go_num, ?_, hw2, hrow2, fun i hi => ?_, fun i hi hqi => ?_, fun i hi => ?_⟩
          · simp only [tk]; congr 1; push_cast; omega
          · simp only [if_neg (show ¬ i * 3 + 2 = q * 3 + 1 by omega), if_neg (show ¬ i * 3 + 2 = q * 3 by omega)]; exact hf i hi
          · exact (hrest i hi (by omega)).keep fun g hg _ => hkp g (fun e => ha i hi (by rw [hg, e])) (fun e => hap i q hi hlt (by omega) g hg e)
          · by_cases e : i = q
            · subst e
              refine ⟨?_, ?_, hK2⟩
              · simp
              · simp
            · obtain ⟨g1, g2, g3⟩ := hg i (by omega)
              simp only [if_neg (show ¬ i * 3 = q * 3 + 1 by omega), if_neg (show ¬ i * 3 = q * 3 by omega), if_neg (show ¬ i * 3 + 1 = q * 3 + 1 by omega), if_neg (show ¬ i * 3 + 1 = q * 3 by omega)]
              exact ⟨g1, g2, g3.keep fun g hg _ => hkp g (fun e' => ha i (by omega) (by rw [hg, e'])) (fun e' => hap i q (by omega) hlt e g hg e')⟩
        case measure => simp [intOf]; omega
      · have hqm : q = n := by omega
        subst hqm
        go_wp2
        go_ret
        exact ⟨rfl, hw, .inr ⟨B, c, f', rfl, hrow, fun i hi => ⟨(hg i hi).1, (hg i hi).2.1, hf i hi, (hg i hi).2.2⟩⟩⟩
end Go.Proofs.YtmecbppblbmchaaGreatDoor
