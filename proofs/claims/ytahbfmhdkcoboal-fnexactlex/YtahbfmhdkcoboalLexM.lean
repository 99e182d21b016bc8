/- Marks: markText, markTokS, heldTokS. -/
import Derived.Test.YtahbfmhdkcoboalLexE
namespace Go.Proofs.Ytahbfmhdkcoboal
open Go.ChangeShapes Go.WideShapes Go.ChangeAt Go.RowKit
set_option linter.unusedVariables false
set_option maxRecDepth 100000
attribute [local go_sem ↓] Go.wp_at_zero Go.wp_at_succ

/-- The digits of k, ahead of those that there are. -/
def mGo (k : Nat) (acc : List UInt8) : List UInt8 := if h : 0 < k then mGo (k / 10) (UInt8.ofNat (48 + k % 10) :: acc) else acc
termination_by k
decreasing_by exact Nat.div_lt_self h (by omega)
theorem mGo_step {k : Nat} (h : 0 < k) (acc : List UInt8) : mGo k acc = mGo (k / 10) (UInt8.ofNat (48 + k % 10) :: acc) := by rw [mGo, dif_pos h]
theorem mGo_end (acc : List UInt8) : mGo 0 acc = acc := by rw [mGo, dif_neg (by omega)]
def mT (k : Nat) : ByteArray := ⟨#[109]⟩ ++ ⟨(mGo k []).toArray⟩

theorem cat_cons (b : UInt8) (acc : List UInt8) : (ByteArray.mk #[b]) ++ (ByteArray.mk acc.toArray) = ⟨(b :: acc).toArray⟩ := by
  apply ByteArray.ext
  simp

set_option maxHeartbeats 2000000 in
theorem markText_any (k : Nat) (w : World) (hk : 0 < k) (hk2 : k ≤ 1000000) :
    Calls Try.prog 35 #[.int .i64 (k : Int)] w fun e w' => e = .returned (.string (mT k)) ∧ Below w.heap.size w w' := by
  have hk' : ¬ (k : Int) ≤ 0 := by omega
  go_enter Try.func35, Try.ntmps35
  go_wp2
  go_loopw [0, 3] (fun t o wr => ∃ (j : Nat) (acc : List UInt8), t = .int .i64 (j : Int) ∧ o = .string ⟨acc.toArray⟩ ∧ Hid (mGo j acc = mGo k []) ∧ acc.length + j ≤ k ∧ Below w.heap.size w wr) (fun t _ _ => (intOf t).toNat)
  case atStart => exact ⟨k, [], rfl, rfl, rfl, by simp, Below.refl _ _⟩
  case round =>
    rename World => wo
    obtain ⟨j, acc, rfl, rfl, hm, hlen, hb⟩ := hrel
    by_cases hj : 0 < j
    · have j0 : (0 : Int) < (j : Int) := by omega
      have hbt : ((UInt8.ofNat (48 + j % 10)).toNat : Int) = 48 + (j : Int) % 10 := by
        rw [UInt8.toNat_ofNat']
        omega
      have hback := run_convert_bytes_back (P := Try.prog) (wo.alloc (Obj.cells #[.int .u8 (48 + (j : Int) % 10)] 5)) 41 9 5 ⟨wo.heap.size, 0, none⟩ 1 [UInt8.ofNat (48 + j % 10)] Try.underlying41 Try.underlying5 Try.underlying9 (fun i hi => by
        have e0 : i = 0 := by simpa using hi
        subst e0
        show _ = some (Value.int .u8 ((UInt8.ofNat (48 + j % 10)).toNat : Int))
        rw [hbt]
        simp [Addr.add, go_sem])
      simp only [List.length_cons, List.length_nil, Nat.zero_add] at hback
      have hM : Hid (mGo (j / 10) (UInt8.ofNat (48 + j % 10) :: acc) = mGo k []) := by
        show _ = _
        rw [← mGo_step hj]
        exact hm.out
      have hL : (UInt8.ofNat (48 + j % 10) :: acc).length + j / 10 ≤ k := by
        rw [List.length_cons]
        omega
      have hlt : j / 10 < j := by omega
      generalize UInt8.ofNat (48 + j % 10) = bb at hback hM hL
      clear hbt hm
      go_wp2
      go_roundw
      case rel => exact ⟨j / 10, bb :: acc, by simp, by rw [cat_cons], hM, hL, hb.alloc hb.size _⟩
      case measure => simp [intOf]; omega
    · obtain rfl : j = 0 := by omega
      have e : mT k = ⟨#[109]⟩ ++ ⟨acc.toArray⟩ := by rw [mT, ← hm.out, mGo_end]
      clear hm
      go_wp2
      go_ret
      exact ⟨by rw [e]; rfl, hb⟩
/-! ### The marks of words -/

def FreeT (w : World) (g n : Nat) : Prop := ∀ j, j < n * 4 → (∃ u, w.cell? ⟨g, j, none⟩ = some u) ∧ w.frozen? ⟨g, j, none⟩ = false
def MarkedT (w : World) (g k i : Nat) : Prop := ∀ j, j < i → w.cell? ⟨g, j * 4, none⟩ = some (.int .i64 ((k + 4 * j : Nat) : Int)) ∧ w.cell? ⟨g, j * 4 + 1, none⟩ = some (.string (mT (k + 4 * j + 1))) ∧ w.cell? ⟨g, j * 4 + 2, none⟩ = some (.int .i64 ((k + 4 * j + 2 : Nat) : Int)) ∧ w.cell? ⟨g, j * 4 + 3, none⟩ = some (.int .i64 ((k + 4 * j + 3 : Nat) : Int))

theorem cell_set_ne {w : World} {g j j' : Nat} (u : Value) (h : j' ≠ j) : (w.setCell ⟨g, j, none⟩ u).cell? ⟨g, j', none⟩ = w.cell? ⟨g, j', none⟩ := by
  simp [go_sem]
theorem cell_set_eq {w : World} {g j : Nat} (u : Value) (h : ∃ x, w.cell? ⟨g, j, none⟩ = some x) : (w.setCell ⟨g, j, none⟩ u).cell? ⟨g, j, none⟩ = some u := by
  obtain ⟨x, hx⟩ := h
  simp [go_sem, hx]
theorem frozen_set {w : World} {g j j' : Nat} (u : Value) : (w.setCell ⟨g, j, none⟩ u).frozen? ⟨g, j', none⟩ = w.frozen? ⟨g, j', none⟩ := by simp [go_sem]

theorem FreeT.set {w : World} {g n : Nat} (h : FreeT w g n) (j : Nat) (u : Value) : FreeT (w.setCell ⟨g, j, none⟩ u) g n := fun j' hj' => by
  refine ⟨?_, by rw [frozen_set]; exact (h j' hj').2⟩
  by_cases e : j' = j
  · subst e
    exact ⟨u, cell_set_eq u (h j' hj').1⟩
  · rw [cell_set_ne u e]
    exact (h j' hj').1
theorem FreeT.stays {w w' : World} {g n : Nat} (h : FreeT w g n) (hb : Below w.heap.size w w') (hg : g < w.heap.size) : FreeT w' g n := fun j hj => by
  rw [hb.cell (by exact hg), hb.frozen (by exact hg)]
  exact h j hj
theorem MarkedT.stays {w w' : World} {g k i : Nat} (h : MarkedT w g k i) (hb : Below w.heap.size w w') (hg : g < w.heap.size) : MarkedT w' g k i := fun j hj => by
  obtain ⟨h1, h2, h3, h4⟩ := h j hj
  refine ⟨?_, ?_, ?_, ?_⟩
  all_goals (rw [hb.cell (by exact hg)]; assumption)
theorem MarkedT.set {w : World} {g k i : Nat} (h : MarkedT w g k i) {j : Nat} (hj : i * 4 ≤ j) (u : Value) : MarkedT (w.setCell ⟨g, j, none⟩ u) g k i := fun j' hj' => by
  obtain ⟨h1, h2, h3, h4⟩ := h j' hj'
  refine ⟨?_, ?_, ?_, ?_⟩
  all_goals (rw [cell_set_ne u (by omega)]; assumption)

theorem mark_step {w : World} {g k i n : Nat} {x1 x2 x3 : Value} (hF : FreeT w g n) (hM : MarkedT w g k i) (hi : i < n) (v0 : w.cell? ⟨g, i * 4, none⟩ = some (.int .i64 ((k + 4 * i : Nat) : Int))) (e1 : x1 = .string (mT (k + 4 * i + 1))) (e2 : x2 = .int .i64 ((k + 4 * i + 2 : Nat) : Int)) (e3 : x3 = .int .i64 ((k + 4 * i + 3 : Nat) : Int)) :
    MarkedT (((w.setCell ⟨g, i * 4 + 1, none⟩ x1).setCell ⟨g, i * 4 + 2, none⟩ x2).setCell ⟨g, i * 4 + 3, none⟩ x3) g k (i + 1) := by
  intro j hj
  by_cases e : j = i
  · subst e
    subst e1 e2 e3
    refine ⟨?_, ?_, ?_, ?_⟩
    · rw [cell_set_ne _ (by omega), cell_set_ne _ (by omega), cell_set_ne _ (by omega), v0]
    · rw [cell_set_ne _ (by omega), cell_set_ne _ (by omega), cell_set_eq _ (hF _ (by omega)).1]
    · rw [cell_set_ne _ (by omega), cell_set_eq _ ((hF.set _ _) _ (by omega)).1]
    · rw [cell_set_eq _ (((hF.set _ _).set _ _) _ (by omega)).1]
  · exact (((hM.set (by omega) x1).set (by omega) x2).set (by omega) x3) j (by omega)

set_option maxHeartbeats 2000000 in
theorem markTokS_any (a : Option Addr) (n cap k base : Nat) (w : World) (hn : n ≤ 6000) (hk : 1 ≤ k) (hk2 : k ≤ 10) (hbase : base ≤ w.heap.size) (hA : 0 < n → ∃ g, a = some ⟨g, 0, none⟩ ∧ base ≤ g ∧ g < w.heap.size ∧ FreeT w g n) :
    Calls Try.prog 19 #[.slice a n cap, .int .i64 (k : Int)] w fun e w' => e = .returned (.int .i64 ((k + 4 * n : Nat) : Int)) ∧ (∀ g, a = some ⟨g, 0, none⟩ → 0 < n → MarkedT w' g k n) ∧ Below base w w' := by
  go_enter Try.func19, Try.ntmps19
  go_wp2
  go_loopw [1, 5] (fun t1 t5 wr => ∃ i kk : Nat, i ≤ n ∧ t5 = .int .i64 (i : Int) ∧ (kk ≤ k + 4 * i ∧ k + 4 * i ≤ kk) ∧ t1 = .int .i64 (kk : Int) ∧ Below base w wr ∧ (∀ g, a = some ⟨g, 0, none⟩ → 0 < n → FreeT wr g n ∧ MarkedT wr g k i)) (fun _ t5 _ => n - (intOf t5).toNat)
  case atStart => exact ⟨0, k, Nat.zero_le _, rfl, ⟨by omega, by omega⟩, rfl, Below.refl _ _, fun g hg hp => ⟨by obtain ⟨g', e, _, _, h⟩ := hA hp; rw [hg] at e; cases e; exact h, fun j hj => absurd hj (Nat.not_lt_zero _)⟩⟩
  case round =>
    rename World => wo
    obtain ⟨i, kk, hi, rfl, ⟨hka, hkb⟩, rfl, hb, hM⟩ := hrel
    by_cases hlt : i < n
    · obtain ⟨g, rfl, hg1, hg2, _⟩ := hA (by omega)
      obtain ⟨hF, hMk⟩ := hM g rfl (by omega)
      have hz := hb.size
      have i0 : (0 : Int) ≤ (i : Int) := by omega
      have i1 : (i : Int) < (n : Int) := by omega
      obtain ⟨u0, c0⟩ := (hF (i * 4) (by omega)).1
      have f0 := (hF (i * 4) (by omega)).2
      have hF1 := hF.set (i * 4) (.int .i64 (kk : Int))
      have hM1 := hMk.set (Nat.le_refl _) (.int .i64 (kk : Int))
      have v0 := cell_set_eq (.int .i64 (kk : Int)) ⟨u0, c0⟩
      have b1 : Below base w (wo.setCell ⟨g, i * 4, none⟩ (.int .i64 (kk : Int))) := hb.setCell (by exact hg1) _
      have z1 : (wo.setCell ⟨g, i * 4, none⟩ (.int .i64 (kk : Int))).heap.size = wo.heap.size := by simp [World.setCell]
      clear hM hA hF hMk
      go_wp2_with fail
      clear c0 f0
      generalize wo.setCell ⟨g, i * 4, none⟩ (.int .i64 (kk : Int)) = w1 at hF1 hM1 v0 b1 z1 ⊢
      rw [show (kk : Int) + 1 = ((kk + 1 : Nat) : Int) from by omega]
      refine (markText_any (kk + 1) w1 (by omega) (by omega)).mono ?_
      rintro er w2 ⟨rfl, hb2⟩
      have hF2 := hF1.stays hb2 (by omega)
      have hM2 := hM1.stays hb2 (by omega)
      have b2 : Below base w w2 := b1.trans (hb2.mono (by omega))
      replace v0 : w2.cell? ⟨g, i * 4, none⟩ = some (.int .i64 (kk : Int)) := by rw [hb2.cell (by show g < _; omega)]; exact v0
      obtain ⟨u1, c1⟩ := (hF2 (i * 4 + 1) (by omega)).1
      have f1 := (hF2 (i * 4 + 1) (by omega)).2
      obtain ⟨u2, c2⟩ := (hF2 (i * 4 + 2) (by omega)).1
      have f2 := (hF2 (i * 4 + 2) (by omega)).2
      obtain ⟨u3, c3⟩ := (hF2 (i * 4 + 3) (by omega)).1
      have f3 := (hF2 (i * 4 + 3) (by omega)).2
      clear hF1 hM1 b1 hb2
      have hMM := mark_step (x1 := .string (mT (kk + 1))) (x2 := .int .i64 ((kk : Int) + 1 + 1)) (x3 := .int .i64 ((kk : Int) + 1 + 1 + 1)) hF2 hM2 hlt (by rw [v0]; congr 2; omega) (by rw [show kk = k + 4 * i from by omega]) (by congr 1; omega) (by congr 1; omega)
      have hFF := ((hF2.set (i * 4 + 1) (.string (mT (kk + 1)))).set (i * 4 + 2) (.int .i64 ((kk : Int) + 1 + 1))).set (i * 4 + 3) (.int .i64 ((kk : Int) + 1 + 1 + 1))
      go_wp2
      go_roundw
      case rel => exact ⟨i + 1, kk + 4, by omega, by go_num, ⟨by omega, by omega⟩, by go_num, ((b2.setCell (by exact hg1) _).setCell (by exact hg1) _).setCell (by exact hg1) _, fun g' e hp => by cases e; exact ⟨hFF, hMM⟩⟩
      case measure => simp [intOf]; omega
    · have e : i = n := by omega
      subst e
      go_wp2
      go_ret
      exact ⟨by rw [show k + 4 * i = kk from by omega]; rfl, fun g hg hp => (hM g hg hp).2, hb⟩
set_option maxHeartbeats 2000000 in
theorem heldTokS_any (a : Option Addr) (n cap k : Nat) (w : World) (hn : n ≤ 6000) (hk : 1 ≤ k) (hk2 : k ≤ 10) (hA : 0 < n → ∃ g, a = some ⟨g, 0, none⟩ ∧ g < w.heap.size ∧ MarkedT w g k n) :
    Calls Try.prog 20 #[.slice a n cap, .int .i64 (k : Int)] w fun e w' => e = .returned (.int .i64 ((k + 4 * n : Nat) : Int)) ∧ Below w.heap.size w w' := by
  go_enter Try.func20, Try.ntmps20
  go_wp2
  go_loopw [1, 5] (fun t1 t5 wr => ∃ i kk : Nat, i ≤ n ∧ t5 = .int .i64 (i : Int) ∧ (kk ≤ k + 4 * i ∧ k + 4 * i ≤ kk) ∧ t1 = .int .i64 (kk : Int) ∧ Below w.heap.size w wr) (fun _ t5 _ => n - (intOf t5).toNat)
  case atStart => exact ⟨0, k, Nat.zero_le _, rfl, ⟨by omega, by omega⟩, rfl, Below.refl _ _⟩
  case round =>
    rename World => wo
    obtain ⟨i, kk, hi, rfl, ⟨hka, hkb⟩, rfl, hb⟩ := hrel
    by_cases hlt : i < n
    · obtain ⟨g, rfl, hg, hM⟩ := hA (by omega)
      obtain ⟨m0, m1, m2, m3⟩ := (hM.stays hb hg) i hlt
      rw [show k + 4 * i = kk from by omega] at m0 m1 m2 m3
      have hz := hb.size
      have hgo : g < wo.heap.size := by omega
      have i0 : (0 : Int) ≤ (i : Int) := by omega
      have i1 : (i : Int) < (n : Int) := by omega
      clear hA hM
      go_wp2_with fail
      refine region_last (fun x => x.cell? ⟨g, i * 4 + 1, none⟩ = some (.string (mT (kk + 1)))) (by kernel_rfl) (by kernel_rfl) (by kernel_rfl) m1 (fun hHeld => ?_)
      simp only [List.dropLast, List.length_cons, List.length_nil, Nat.reduceAdd]
      refine takeL (i := 0) (v := ?_) rfl (by kernel_rfl) (by kernel_rfl) (by kernel_rfl) (fun _ _ _ h => h) rfl (by assumption) ?_ ?_
      rotate_left
      · (intro wS hSw; (try dsimp only at hSw); go_simp; try with_reducible rfl)
      (try simp only [Act.put, List.setIfInBounds_toArray, List.set_cons_zero, List.set_cons_succ])
      refine takeL (i := 1) (v := ?_) rfl (by kernel_rfl) (by kernel_rfl) (by kernel_rfl) (fun _ _ _ h => h) rfl (by assumption) ?_ ?_
      rotate_left
      · (intro wS hSw; (try dsimp only at hSw); go_simp; try with_reducible rfl)
      (try simp only [Act.put, List.setIfInBounds_toArray, List.set_cons_zero, List.set_cons_succ])
      refine takeL (i := 2) (v := ?_) rfl (by kernel_rfl) (by kernel_rfl) (by kernel_rfl) (fun _ _ _ h => h) rfl (by assumption) ?_ ?_
      rotate_left
      · (intro wS hSw; (try dsimp only at hSw); go_simp; try with_reducible rfl)
      (try simp only [Act.put, List.setIfInBounds_toArray, List.set_cons_zero, List.set_cons_succ])
      refine takeL (i := 3) (v := ?_) rfl (by kernel_rfl) (by kernel_rfl) (by kernel_rfl) (fun _ _ _ h => h) rfl (by assumption) ?_ ?_
      rotate_left
      · (intro wS hSw; (try dsimp only at hSw); go_simp; try with_reducible rfl)
      (try simp only [Act.put, List.setIfInBounds_toArray, List.set_cons_zero, List.set_cons_succ])
      refine takeL (i := 4) (v := ?_) rfl (by kernel_rfl) (by kernel_rfl) (by kernel_rfl) (fun _ _ _ h => h) rfl (by assumption) ?_ ?_
      rotate_left
      · (intro wS hSw; (try dsimp only at hSw); go_simp; try with_reducible rfl)
      (try simp only [Act.put, List.setIfInBounds_toArray, List.set_cons_zero, List.set_cons_succ])
      refine takeL (i := 5) (v := ?_) rfl (by kernel_rfl) (by kernel_rfl) (by kernel_rfl) (fun _ _ _ h => h) rfl (by assumption) ?_ ?_
      rotate_left
      · (intro wS hSw; (try dsimp only at hSw); go_simp; try with_reducible rfl)
      (try simp only [Act.put, List.setIfInBounds_toArray, List.set_cons_zero, List.set_cons_succ])
      refine stepL (i := 6) rfl (by kernel_rfl) (fun K hK => ?_)
      rw [if_pos (by rfl)]
      go_simp
      rw [show (kk : Int) + 1 = ((kk + 1 : Nat) : Int) from by omega]
      refine (markText_any (kk + 1) _ (by omega) (by omega)).mono ?_
      rintro er w2 ⟨rfl, hb2⟩
      have b2 : Below wo.heap.size wo w2 := (Below.refl _ _).drew.trans hb2
      have y1 : w2.cell? ⟨g, i * 4 + 1, none⟩ = some (.string (mT (kk + 1))) := by rw [b2.cell (by exact hgo)]; exact m1
      have y2 : w2.cell? ⟨g, i * 4 + 2, none⟩ = some (.int .i64 ((kk : Int) + 1 + 1)) := by rw [b2.cell (by exact hgo), m2]; congr 2
      have y3 : w2.cell? ⟨g, i * 4 + 3, none⟩ = some (.int .i64 ((kk : Int) + 1 + 1 + 1)) := by rw [b2.cell (by exact hgo), m3]; congr 2
      refine hK.out _ _ y1 (fun hHeld2 => ?_)
      clear hK K hHeld m0 m1 m2 m3
      (try simp only [Act.put, List.setIfInBounds_toArray, List.set_cons_zero, List.set_cons_succ])
      refine wpAnyH_done (by kernel_rfl) ?_ _
      refine lastL (n := 7) rfl rfl ?_
      go_simp
      clear hHeld2 y1
      go_wp2
      go_roundw
      case rel => exact ⟨i + 1, kk + 4, by omega, by go_num, ⟨by omega, by omega⟩, by go_num, hb.trans (b2.mono hb.size)⟩
      case measure => simp [intOf]; omega
    · have e : i = n := by omega
      subst e
      go_wp2
      go_ret
      exact ⟨by rw [show k + 4 * i = kk from by omega]; rfl, hb⟩

end Go.Proofs.Ytahbfmhdkcoboal
