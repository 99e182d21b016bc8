import Derived.Test.YtmecbppblbmchaaGreatDoorLastV
import Derived.Test.YtmecbppblbmchaaGreatDoorPrune0
import Derived.Maps.RangeWalk
/- impl.lastValues, impl.takesVer: what Install asks of rows and lists. -/
namespace Go.Proofs.YtmecbppblbmchaaGreatDoor
open Go.ChangeShapes Go.WideShapes Go.ChangeAt Go.RowKit Go.Sort Go.Maps
set_option linter.unusedVariables false
set_option maxRecDepth 100000
attribute [local go_sem ↓] Go.wp_at_zero Go.wp_at_succ

/-- The value of the last one of the first k rows that has that key. -/
def lv (l : List Rw) : Nat → Int → Int → Option Int
  | 0, _, _ => none
  | k + 1, t, r => if t = (rAt l k).t ∧ r = (rAt l k).r then some (rAt l k).v else lv l k t r
def lvV (l : List Rw) (k : Nat) : Int → Int → Option Value := fun t r => (lv l k t r).map fun x => .int .i64 x

theorem lvV_step (l : List Rw) (k : Nat) : put2 (lvV l k) (rAt l k).t (rAt l k).r (.int .i64 (rAt l k).v) = lvV l (k + 1) := by
  funext t r
  simp only [put2, lvV, lv]
  split <;> simp

theorem lv_some {l : List Rw} : ∀ {k : Nat} {t r v : Int}, lv l k t r = some v → ∃ i, i < k ∧ (rAt l i).t = t ∧ (rAt l i).r = r
  | 0, _, _, _, h => by simp [lv] at h
  | k + 1, t, r, v, h => by
    simp only [lv] at h
    split at h
    · rename_i e
      exact ⟨k, by omega, e.1.symm, e.2.symm⟩
    · obtain ⟨i, h1, h2⟩ := lv_some h
      exact ⟨i, by omega, h2⟩

theorem makeMapI (w : World) : (Instr.makeMap 177 none).run Tryz.prog w = .ok (.map (some w.heap.size)) (w.alloc (.map #[] 0)) := by
  simp [Instr.makeMap]

theorem lastValues_own (v : Value) (l : List Rw) (w : World) {lo hi : Nat} (h : RowsAt lo hi w v l) (hw : WfRw l) (hn : l.length ≤ 1048576) :
    Calls Tryz.prog 128 #[v] w fun e w' => ∃ b D, e = .returned (.map (some b)) ∧ w'.ownsMap Tryz.prog 46 KV b l.length D ∧ At D (lvV l l.length) ∧ w.heap.size ≤ b ∧ Below w.heap.size w w' := by
  obtain ⟨a, cap, rfl, hm, hc⟩ := h
  have hmk := makeMapI
  go_enter Tryz.func128, Tryz.ntmps128
  go_wp2
  go_loopw [9] (fun i wr => ∃ (k : Nat) (D : DataW Value), k ≤ l.length ∧ i = .int .i64 k ∧ Below w.heap.size w wr ∧ wr.ownsMap Tryz.prog 46 KV w.heap.size k D ∧ At D (lvV l k)) (fun i _ => l.length - (intOf i).toNat)
  case atStart => exact ⟨0, .map [], Nat.zero_le _, rfl, (Below.refl _ _).alloc (Nat.le_refl _) _, World.ownsMap_made w Tryz.prog 46 KV, At.empty⟩
  case round =>
    obtain ⟨k, D, hk, rfl, hb, hown, hat⟩ := hrel
    by_cases hlt : k < l.length
    · obtain ⟨b, off, rfl, hlo, hhi, hcc⟩ := hc (by omega)
      obtain ⟨c0, c1, c2⟩ := hcc k hlt
      replace c0 := cell_stays hb c0
      replace c1 := cell_stays hb c1
      replace c2 := cell_stays hb c2
      have wk := hw k hlt
      clear hcc hc
      go_wp2_with (at_mapUpdate; refine wpList_mapUpdate_own _ rfl _ _ _ 177 rfl 46 3 mlaw Tryz.underlying177 KV w.heap.size k D rfl (hown.alloc _) (by unfold maxLen; omega) _ _ _ rfl rfl (key_is wk.1 wk.2) _ [] rfl ?_; intro w1 hown1 hgrow1)
      have hsz := hb.size
      have hat1 := hat.put wk.1 wk.2 (.int .i64 (rAt l k).v)
      rw [lvV_step] at hat1
      go_roundw
      case rel => exact ⟨k + 1, _, by omega, by go_num, (hb.alloc hb.size _).grown hgrow1 (by simp; omega) (fun j hj => by cases hj; omega), hown1, hat1⟩
      case measure => simp [intOf]; omega
    · have hkl : k = l.length := by omega
      subst hkl
      go_wp2
      go_ret
      exact ⟨_, D, rfl, hown, hat, Nat.le_refl _, hb⟩

/-- The hour of the last version, or 0. -/
def lastO (l : List Vr) : Int := if l.length = 0 then 0 else lastH l
def takes (l : List Vr) (h : Int) : Prop := lastO l < h ∧ l.length < 200

theorem verAt_lastO (v : Value) (l : List Vr) (w : World) {lo hi : Nat} (hl : VersAt lo hi w v l) (ho : versOk l ∨ l = []) :
    Calls Tryz.prog 119 #[v, .int .i64 1000000] w fun e w' => ∃ x, e = .returned (.agg #[.int .i64 (lastO l), .int .i64 x]) ∧ Below w.heap.size w w' := by
  rcases ho with ho | rfl
  · refine (verAt_last v l w hl ho).mono ?_
    rintro e w' ⟨rfl, hb⟩
    have := ho.1
    exact ⟨(vAt l (l.length - 1)).2, by rw [lastO, if_neg (by omega)], hb⟩
  · refine (verAt_any v [] 1000000 w hl).mono ?_
    rintro e w' ⟨k, rfl, hk, hb⟩
    have : k = 0 := by have := hk.1; simpa using this
    subst this
    exact ⟨_, by simp [rdV, lastO]; rfl, hb⟩

theorem takesVer_any (v : Value) (l : List Vr) (h : Int) (w : World) {lo hi : Nat} (hl : VersAt lo hi w v l) (ho : versOk l ∨ l = []) :
    Calls Tryz.prog 129 #[v, .int .i64 h] w fun e w' => Says e (takes l h) ∧ Below w.heap.size w w' := by
  obtain ⟨a, cap, hv, hm, _⟩ := id hl
  subst hv
  unfold maxLen at hm
  go_enter Tryz.func129, Tryz.ntmps129
  go_wp2_with fail
  refine (verAt_lastO _ l w hl ho).mono ?_
  rintro e w1 ⟨x, rfl, hb1⟩
  have hfd := field_at (lastO l) x
  by_cases h1 : lastO l < h
  · by_cases h2 : l.length < 200
    · have h2' : (l.length : Int) < 200 := by omega
      go_wp2
      go_ret
      exact ⟨says_yes ⟨h1, h2⟩, hb1⟩
    · have h2' : decide ((l.length : Int) < 200) = false := by rw [decide_eq_false_iff_not]; omega
      go_wp2
      go_ret
      exact ⟨says_no fun hh => h2 hh.2, hb1⟩
  · go_wp2
    go_ret
    exact ⟨says_no fun hh => by have := hh.1; omega, hb1⟩

end Go.Proofs.YtmecbppblbmchaaGreatDoor
