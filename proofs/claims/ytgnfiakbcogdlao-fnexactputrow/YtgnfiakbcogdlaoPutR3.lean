/- impl.lastValues at rows in order; impl.PutRow. -/
import Derived.Test.YtgnfiakbcogdlaoPutR2
namespace Go.Proofs.Ytgnfiakbcogdlao
open Go.ChangeShapes Go.WideShapes Go.ChangeAt Go.RowKit Go.Sort Go.Maps Go.Deep Go.Joins
set_option linter.unusedVariables false
set_option maxRecDepth 100000
attribute [local go_sem ↓] Go.wp_at_zero Go.wp_at_succ

/-- The value of the last one of the first k rows that has that key. -/
def lv (l : List Rw) : Nat → Int → Int → Option Int
  | 0, _, _ => none
  | k + 1, t, r => if t = (rAt l k).t ∧ r = (rAt l k).r then some (rAt l k).v else lv l k t r

def lvV (l : List Rw) (k : Nat) : Int → Int → Option Value := fun t r => (lv l k t r).map fun x => .int .i64 x

theorem lvV_step (l : List Rw) (k : Nat) : put2 (lvV l k) (rAt l k).t (rAt l k).r (.int .i64 (rAt l k).v) = lvV l (k + 1) := by
  funext t r
  simp only [put2, lvV, lv]
  split <;> simp

theorem lv_some {l : List Rw} : ∀ {k : Nat} {t r v : Int}, lv l k t r = some v → ∃ i, i < k ∧ (rAt l i).t = t ∧ (rAt l i).r = r
  | 0, _, _, _, h => by simp [lv] at h
  | k + 1, t, r, v, h => by
    simp only [lv] at h
    split at h
    · rename_i e
      exact ⟨k, by omega, e.1.symm, e.2.symm⟩
    · obtain ⟨i, h1, h2⟩ := lv_some h
      exact ⟨i, by omega, h2⟩

theorem makeMapI (w : World) : (Instr.makeMap 79 none).run Try.prog w = .ok (.map (some w.heap.size)) (w.alloc (.map #[] 0)) := by
  simp [Instr.makeMap]

theorem lastValues_own (v : Value) (l : List Rw) (w : World) {lo hi : Nat} (h : RowsAt lo hi w v l) (hw : WfRw l) (hn : l.length ≤ 1048576) :
    Calls Try.prog 42 #[v] w fun e w' => ∃ b D, e = .returned (.map (some b)) ∧ w'.ownsMap Try.prog 29 KV b l.length D ∧ At D (lvV l l.length) ∧ w.heap.size ≤ b ∧ Below w.heap.size w w' := by
  obtain ⟨a, cap, rfl, hm, hc⟩ := h
  have hmk := makeMapI
  go_enter Try.func42, Try.ntmps42
  go_wp2
  go_loopw [9] (fun i wr => ∃ (k : Nat) (D : DataW Value), k ≤ l.length ∧ i = .int .i64 k ∧ Below w.heap.size w wr ∧ wr.ownsMap Try.prog 29 KV w.heap.size k D ∧ At D (lvV l k)) (fun i _ => l.length - (intOf i).toNat)
  case atStart => exact ⟨0, .map [], Nat.zero_le _, rfl, (Below.refl _ _).alloc (Nat.le_refl _) _, World.ownsMap_made w Try.prog 29 KV, At.empty⟩
  case round =>
    obtain ⟨k, D, hk, rfl, hb, hown, hat⟩ := hrel
    by_cases hlt : k < l.length
    · obtain ⟨b, off, rfl, hlo, hhi, hcc⟩ := hc (by omega)
      obtain ⟨c0, c1, c2⟩ := hcc k hlt
      replace c0 := cell_stays hb c0
      replace c1 := cell_stays hb c1
      replace c2 := cell_stays hb c2
      have wk := hw k hlt
      clear hcc hc
      go_wp2_with (at_mapUpdate; refine wpList_mapUpdate_own _ rfl _ _ _ 79 rfl 29 3 mlaw Try.underlying79 KV w.heap.size k D rfl (hown.alloc _) (by unfold maxLen; omega) _ _ _ rfl rfl (key_is wk.1 wk.2) _ [] rfl ?_; intro w1 hown1 hgrow1)
      have hsz := hb.size
      have hat1 := hat.put wk.1 wk.2 (.int .i64 (rAt l k).v)
      rw [lvV_step] at hat1
      go_roundw
      case rel => exact ⟨k + 1, _, by omega, by go_num, (hb.alloc hb.size _).grown hgrow1 (by simp; omega) (fun j hj => by cases hj; omega), hown1, hat1⟩
      case measure => simp [intOf]; omega
    · have hkl : k = l.length := by omega
      subst hkl
      go_wp2
      go_ret
      exact ⟨_, D, rfl, hown, hat, Nat.le_refl _, hb⟩

theorem rows_up {l : List Rw} (h : keysUp l) : ∀ (i n : Nat), i + n + 1 < l.length → klB (rAt l i).t (rAt l i).r (rAt l (i + n + 1)).t (rAt l (i + n + 1)).r = true
  | i, 0, hi => by have := (h (i + 1) hi).2 (by omega); simpa using this
  | i, n + 1, hi => by
    have h1 := rows_up h i n (by omega)
    have h2 := (h (i + (n + 1) + 1) hi).2 (by omega)
    exact klB_trans h1 (by simpa [Nat.add_assoc] using h2)
theorem rows_lt {l : List Rw} (h : keysUp l) {i j : Nat} (hij : i < j) (hj : j < l.length) : klB (rAt l i).t (rAt l i).r (rAt l j).t (rAt l j).r = true := by
  have := rows_up h i (j - i - 1) (by omega)
  rwa [show i + (j - i - 1) + 1 = j by omega] at this

theorem lv_hit {l : List Rw} {i : Nat} {t r : Int} (hk : (rAt l i).t = t ∧ (rAt l i).r = r) : ∀ {k : Nat}, i < k → (∀ j, i < j → j < k → ¬ ((rAt l j).t = t ∧ (rAt l j).r = r)) → lv l k t r = some (rAt l i).v
  | 0, h, _ => absurd h (Nat.not_lt_zero _)
  | k + 1, h, hn => by
    simp only [lv]
    by_cases e : i = k
    · subst e
      rw [if_pos ⟨hk.1.symm, hk.2.symm⟩]
    · rw [if_neg (fun e2 => hn k (by omega) (by omega) ⟨e2.1.symm, e2.2.symm⟩)]
      exact lv_hit hk (by omega) fun j h1 h2 => hn j h1 (by omega)
theorem lv_miss {l : List Rw} {t r : Int} : ∀ {k : Nat}, (∀ j, j < k → ¬ ((rAt l j).t = t ∧ (rAt l j).r = r)) → lv l k t r = none
  | 0, _ => rfl
  | k + 1, hn => by
    simp only [lv]
    rw [if_neg (fun e2 => hn k (by omega) ⟨e2.1.symm, e2.2.symm⟩)]
    exact lv_miss fun j h1 => hn j (by omega)

theorem lvV_rows {l : List Rw} (h : rowsOk' l) : lvV l l.length = mf (fun t r => rowOfF t r l) := by
  funext t r
  unfold lvV mf
  by_cases he : ∃ i, i < l.length ∧ (rAt l i).t = t ∧ (rAt l i).r = r
  · obtain ⟨i, hi, hk⟩ := he
    have hu : ∀ j, j < l.length → j ≠ i → ¬ ((rAt l j).t = t ∧ (rAt l j).r = r) := fun j hj hne e => by
      rcases Nat.lt_or_gt_of_ne hne with h1 | h1
      · have := klB_ne (rows_lt h.1 h1 hi); omega
      · have := klB_ne (rows_lt h.1 h1 hj); omega
    simp [lv_hit hk hi (fun j h1 h2 => hu j h2 (by omega)), rowOfF_hit hi hk (fun j hj => hu j (by omega) (by omega)), h.2 i hi]
  · have hn : ∀ j, j < l.length → ¬ ((rAt l j).t = t ∧ (rAt l j).r = r) := fun j hj e => he ⟨j, hj, e⟩
    simp [lv_miss hn, rowOfF_miss hn]

theorem lastValues_map (v : Value) (l : List Rw) (w : World) {lo hi : Nat} (h : RowsAt lo hi w v l) (hw : WfRw l) (hn : l.length ≤ 1048576) (hok : rowsOk' l) :
    Calls Try.prog 42 #[v] w fun e w' => ∃ b, e = .returned (.map (some b)) ∧ RMap w' b l.length (fun t r => rowOfF t r l) ∧ w.heap.size ≤ b ∧ Below w.heap.size w w' := by
  refine (lastValues_own v l w h hw hn).mono ?_
  rintro e w' ⟨b, D, rfl, hown, hat, hb, hB⟩
  rw [lvV_rows hok] at hat
  exact ⟨b, rfl, ⟨D, hown, hat⟩, hb, hB⟩

/-- What PutRow answers. -/
def PAns (base : Nat) (w' : World) (l : List Rw) (t r v : Int) (e : Ending) : Prop :=
  ∃ v' rs, e = .returned v' ∧ ((rowsOk' l ∧ tabB t = true ∧ RowsOf (updM (fun t r => rowOfF t r l) t r v) rs) ∨ (¬ (rowsOk' l ∧ tabB t = true) ∧ rs = [])) ∧ rs.length ≤ l.length + 1 ∧ OwnR base w' v' rs

set_option maxHeartbeats 1000000 in
theorem implPutRow_any (va : Value) (l : List Rw) (t r v : Int) (w : World) {lo hi : Nat} (h : RowsAt lo hi w va l) (hw : WfRw l) (hn : l.length ≤ 1048576) (ht : wf t) (hr : wf r) :
    Calls Try.prog 12 #[va, .agg #[.int .i64 t, .int .i64 r], .int .i64 v] w fun e w' => PAns w.heap.size w' l t r v e ∧ Below w.heap.size w w' := by
  obtain ⟨a, cap, hv⟩ : ∃ a cap, va = .slice a l.length cap := by obtain ⟨a, cap, h1, _⟩ := h; exact ⟨a, cap, h1⟩
  subst hv
  have b0 : Below w.heap.size w (w.alloc (Obj.cells #[Value.int IntKind.i64 t, Value.int IntKind.i64 r] 29)) := (Below.refl _ _).alloc (Nat.le_refl _) _
  go_enter Try.func12, Try.ntmps12
  go_wp2_with fail
  refine (implRowsOk_any _ l _ (h.stays b0)).mono ?_
  rintro e w1 ⟨⟨q, rfl, hq⟩, hb1⟩
  have b1 := b0.trans (hb1.mono b0.size)
  have x0 : w1.cell? ⟨w.heap.size, 0, none⟩ = some (.int .i64 t) := cell_stays hb1 (by simp [go_sem])
  have x1 : w1.cell? ⟨w.heap.size, 1, none⟩ = some (.int .i64 r) := cell_stays hb1 (by simp [go_sem])
  clear hb1 b0
  by_cases hok : rowsOk' l
  · obtain rfl : q = true := hq.2 hok
    clear hq
    go_wp2_with fail
    refine (isTable_any _ _).mono ?_
    rintro e w2 ⟨rfl, rfl⟩
    by_cases htab : tabB t = true
    · have HT : Hid (tabB t = true) := htab
      rw [htab]
      clear htab
      go_wp2_with fail
      refine (lastValues_map _ l _ (h.stays b1) hw (by omega) hok).mono ?_
      rintro e w3 ⟨b, rfl, hM, hbb, hb3⟩
      have b3 := b1.trans (hb3.mono b1.size)
      have y0 := cell_stays hb3 x0
      have y1 := cell_stays hb3 x1
      have hz1 := b1.size
      clear x0 x1 hb3
      go_wp2_with fail
      refine (rowsPut_own b _ _ t r v _ hM (by omega) ht hr).mono ?_
      rintro e w4 ⟨rfl, hM4, hg4⟩
      have b4 : Below w.heap.size w w4 := b3.grown hg4 b3.size (fun j hj => by cases hj; omega)
      clear y0 y1 hM
      go_wp2_with fail
      refine (rowsList_own b _ _ _ hM4 (by omega)).mono ?_
      rintro e w5 ⟨v5, rs, rfl, hR, hlen, hown, hb5⟩
      go_wp2
      go_ret
      exact ⟨⟨_, rs, rfl, .inl ⟨hok, HT.out, hR⟩, hlen, OwnR.of_ownsRow (hown.mono b4.size)⟩, b4.trans (hb5.mono b4.size)⟩
    · have htab' : tabB t = false := by simpa using htab
      rw [htab']
      go_wp2
      go_ret
      exact ⟨⟨_, [], rfl, .inr ⟨fun hh => htab hh.2, rfl⟩, Nat.zero_le _, .inl ⟨rfl, rfl⟩⟩, b1⟩
  · obtain rfl : q = false := says_false hq hok
    clear hq
    go_wp2
    go_ret
    exact ⟨⟨_, [], rfl, .inr ⟨fun hh => hok hh.1, rfl⟩, Nat.zero_le _, .inl ⟨rfl, rfl⟩⟩, b1⟩
end Go.Proofs.Ytgnfiakbcogdlao
