/- Marks of variables: markText, markVarS, heldVarS. -/
import Derived.Test.YtgnfiakbcogdlanV9
namespace Go.Proofs.Ytgnfiakbcogdlan
open Go.ChangeShapes Go.WideShapes Go.ChangeAt Go.RowKit Go.Maps Go.Deep Go.Joins Go.Sort Go.Shelf
set_option linter.unusedVariables false
set_option maxRecDepth 100000
attribute [local go_sem ↓] Go.wp_at_zero Go.wp_at_succ

/-- The digits of k, ahead of those that there are. -/
def mGo (k : Nat) (acc : List UInt8) : List UInt8 := if h : 0 < k then mGo (k / 10) (UInt8.ofNat (48 + k % 10) :: acc) else acc
termination_by k
decreasing_by exact Nat.div_lt_self h (by omega)
theorem mGo_step {k : Nat} (h : 0 < k) (acc : List UInt8) : mGo k acc = mGo (k / 10) (UInt8.ofNat (48 + k % 10) :: acc) := by rw [mGo, dif_pos h]

theorem mGo_end (acc : List UInt8) : mGo 0 acc = acc := by rw [mGo, dif_neg (by omega)]

def mT (k : Nat) : ByteArray := ⟨#[109]⟩ ++ ⟨(mGo k []).toArray⟩

theorem cat_cons (b : UInt8) (acc : List UInt8) : (ByteArray.mk #[b]) ++ (ByteArray.mk acc.toArray) = ⟨(b :: acc).toArray⟩ := by
  apply ByteArray.ext
  simp

set_option maxHeartbeats 2000000 in
theorem markText_any (k : Nat) (w : World) (hk : 0 < k) (hk2 : k ≤ 4000000) :
    Calls Try.prog 50 #[.int .i64 (k : Int)] w fun e w' => e = .returned (.string (mT k)) ∧ Below w.heap.size w w' := by
  have hk' : ¬ (k : Int) ≤ 0 := by omega
  go_enter Try.func50, Try.ntmps50
  go_wp2
  go_loopw [0, 3] (fun t o wr => ∃ (j : Nat) (acc : List UInt8), t = .int .i64 (j : Int) ∧ o = .string ⟨acc.toArray⟩ ∧ Hid (mGo j acc = mGo k []) ∧ acc.length + j ≤ k ∧ Below w.heap.size w wr) (fun t _ _ => (intOf t).toNat)
  case atStart => exact ⟨k, [], rfl, rfl, rfl, by simp, Below.refl _ _⟩
  case round =>
    rename World => wo
    obtain ⟨j, acc, rfl, rfl, hm, hlen, hb⟩ := hrel
    by_cases hj : 0 < j
    · have j0 : (0 : Int) < (j : Int) := by omega
      have hbt : ((UInt8.ofNat (48 + j % 10)).toNat : Int) = 48 + (j : Int) % 10 := by
        rw [UInt8.toNat_ofNat']
        omega
      have hback := run_convert_bytes_back (P := Try.prog) (wo.alloc (Obj.cells #[.int .u8 (48 + (j : Int) % 10)] 5)) 128 9 5 ⟨wo.heap.size, 0, none⟩ 1 [UInt8.ofNat (48 + j % 10)] Try.underlying128 Try.underlying5 Try.underlying9 (fun i hi => by
        have e0 : i = 0 := by simpa using hi
        subst e0
        show _ = some (Value.int .u8 ((UInt8.ofNat (48 + j % 10)).toNat : Int))
        rw [hbt]
        simp [Addr.add, go_sem])
      simp only [List.length_cons, List.length_nil, Nat.zero_add] at hback
      have hM : Hid (mGo (j / 10) (UInt8.ofNat (48 + j % 10) :: acc) = mGo k []) := by
        show _ = _
        rw [← mGo_step hj]
        exact hm.out
      have hL : (UInt8.ofNat (48 + j % 10) :: acc).length + j / 10 ≤ k := by
        rw [List.length_cons]
        omega
      have hlt : j / 10 < j := by omega
      generalize UInt8.ofNat (48 + j % 10) = bb at hback hM hL
      clear hbt hm
      go_wp2
      go_roundw
      case rel => exact ⟨j / 10, bb :: acc, by simp, by rw [cat_cons], hM, hL, hb.alloc hb.size _⟩
      case measure => simp [intOf]; omega
    · obtain rfl : j = 0 := by omega
      have e : mT k = ⟨#[109]⟩ ++ ⟨acc.toArray⟩ := by rw [mT, ← hm.out, mGo_end]
      clear hm
      go_wp2
      go_ret
      exact ⟨by rw [e]; rfl, hb⟩

def FreeV (w : World) (g n : Nat) : Prop := ∀ j, j < n * 2 → (∃ u, w.cell? ⟨g, j, none⟩ = some u) ∧ w.frozen? ⟨g, j, none⟩ = false
def MarkedV (w : World) (g k i : Nat) : Prop := ∀ j, j < i → w.cell? ⟨g, j * 2, none⟩ = some (.string (mT (k + 2 * j))) ∧ w.cell? ⟨g, j * 2 + 1, none⟩ = some (.int .i64 ((k + 2 * j + 1 : Nat) : Int))
theorem cell_set_ne {w : World} {g j j' : Nat} (u : Value) (h : j' ≠ j) : (w.setCell ⟨g, j, none⟩ u).cell? ⟨g, j', none⟩ = w.cell? ⟨g, j', none⟩ := by
  simp [go_sem]

theorem cell_set_eq {w : World} {g j : Nat} (u : Value) (h : ∃ x, w.cell? ⟨g, j, none⟩ = some x) : (w.setCell ⟨g, j, none⟩ u).cell? ⟨g, j, none⟩ = some u := by
  obtain ⟨x, hx⟩ := h
  simp [go_sem, hx]

theorem frozen_set {w : World} {g j j' : Nat} (u : Value) : (w.setCell ⟨g, j, none⟩ u).frozen? ⟨g, j', none⟩ = w.frozen? ⟨g, j', none⟩ := by simp [go_sem]

theorem FreeV.set {w : World} {g n : Nat} (h : FreeV w g n) (j : Nat) (u : Value) : FreeV (w.setCell ⟨g, j, none⟩ u) g n := fun j' hj' => by
  refine ⟨?_, by rw [frozen_set]; exact (h j' hj').2⟩
  by_cases e : j' = j
  · subst e
    exact ⟨u, cell_set_eq u (h j' hj').1⟩
  · rw [cell_set_ne u e]
    exact (h j' hj').1
theorem FreeV.stays {w w' : World} {g n : Nat} (h : FreeV w g n) (hb : Below w.heap.size w w') (hg : g < w.heap.size) : FreeV w' g n := fun j hj => by
  rw [hb.cell (by exact hg), hb.frozen (by exact hg)]
  exact h j hj
theorem MarkedV.stays {w w' : World} {g k i : Nat} (h : MarkedV w g k i) (hb : Below w.heap.size w w') (hg : g < w.heap.size) : MarkedV w' g k i := fun j hj => by
  obtain ⟨h1, h2⟩ := h j hj
  refine ⟨?_, ?_⟩
  all_goals (rw [hb.cell (by exact hg)]; assumption)
theorem MarkedV.set {w : World} {g k i : Nat} (h : MarkedV w g k i) {j : Nat} (hj : i * 2 ≤ j) (u : Value) : MarkedV (w.setCell ⟨g, j, none⟩ u) g k i := fun j' hj' => by
  obtain ⟨h1, h2⟩ := h j' hj'
  refine ⟨?_, ?_⟩
  all_goals (rw [cell_set_ne u (by omega)]; assumption)
theorem markV_step {w : World} {g k i n : Nat} {x0 x1 : Value} (hF : FreeV w g n) (hM : MarkedV w g k i) (hi : i < n) (e0 : x0 = .string (mT (k + 2 * i))) (e1 : x1 = .int .i64 ((k + 2 * i + 1 : Nat) : Int)) :
    MarkedV ((w.setCell ⟨g, i * 2, none⟩ x0).setCell ⟨g, i * 2 + 1, none⟩ x1) g k (i + 1) := by
  intro j hj
  by_cases e : j = i
  · subst e
    subst e0 e1
    refine ⟨?_, ?_⟩
    · rw [cell_set_ne _ (by omega), cell_set_eq _ (hF _ (by omega)).1]
    · rw [cell_set_eq _ ((hF.set _ _) _ (by omega)).1]
  · exact ((hM.set (by omega) x0).set (by omega) x1) j (by omega)

set_option maxHeartbeats 2000000 in
theorem markVarS_any (a : Option Addr) (n cap base : Nat) (w : World) (hn : n ≤ 1048580) (hbase : base ≤ w.heap.size) (hA : 0 < n → ∃ g, a = some ⟨g, 0, none⟩ ∧ base ≤ g ∧ g < w.heap.size ∧ FreeV w g n) :
    Calls Try.prog 23 #[.slice a n cap, .int .i64 1] w fun e w' => e = .returned (.int .i64 ((1 + 2 * n : Nat) : Int)) ∧ (∀ g, a = some ⟨g, 0, none⟩ → 0 < n → MarkedV w' g 1 n) ∧ (∀ g, g < w.heap.size → a ≠ some ⟨g, 0, none⟩ → w'.heap[g]? = w.heap[g]?) ∧ Below base w w' := by
  go_enter Try.func23, Try.ntmps23
  go_wp2
  go_loopw [1, 5] (fun t1 t5 wr => ∃ i kk : Nat, i ≤ n ∧ t5 = .int .i64 (i : Int) ∧ (kk ≤ 1 + 2 * i ∧ 1 + 2 * i ≤ kk) ∧ t1 = .int .i64 (kk : Int) ∧ Below base w wr ∧ (∀ g, g < w.heap.size → a ≠ some ⟨g, 0, none⟩ → wr.heap[g]? = w.heap[g]?) ∧ (∀ g, a = some ⟨g, 0, none⟩ → 0 < n → FreeV wr g n ∧ MarkedV wr g 1 i)) (fun _ t5 _ => n - (intOf t5).toNat)
  case atStart => exact ⟨0, 1, Nat.zero_le _, rfl, ⟨by omega, by omega⟩, rfl, Below.refl _ _, fun _ _ _ => rfl, fun g hg hp => ⟨by obtain ⟨g', e, _, _, h⟩ := hA hp; rw [hg] at e; cases e; exact h, fun j hj => absurd hj (Nat.not_lt_zero _)⟩⟩
  case round =>
    rename World => wo
    obtain ⟨i, kk, hi, rfl, ⟨hka, hkb⟩, rfl, hb, hoth, hM⟩ := hrel
    by_cases hlt : i < n
    · obtain ⟨g, rfl, hg1, hg2, _⟩ := hA (by omega)
      obtain ⟨hF, hMk⟩ := hM g rfl (by omega)
      have hz := hb.size
      have i0 : (0 : Int) ≤ (i : Int) := by omega
      have i1 : (i : Int) < (n : Int) := by omega
      clear hM hA
      go_wp2_with fail
      refine (markText_any kk wo (by omega) (by omega)).mono ?_
      rintro er w2 ⟨rfl, hb2⟩
      have hF2 := hF.stays hb2 (by omega)
      have hM2 := hMk.stays hb2 (by omega)
      have b2 : Below base w w2 := hb.trans (hb2.mono (by omega))
      have o2 : ∀ j, j < w.heap.size → some (⟨g, 0, none⟩ : Addr) ≠ some ⟨j, 0, none⟩ → w2.heap[j]? = w.heap[j]? := fun j hj hne => (hb2.block j (by omega)).trans (hoth j hj hne)
      obtain ⟨u0, c0⟩ := (hF2 (i * 2) (by omega)).1
      have f0 := (hF2 (i * 2) (by omega)).2
      obtain ⟨u1, c1⟩ := (hF2 (i * 2 + 1) (by omega)).1
      have f1 := (hF2 (i * 2 + 1) (by omega)).2
      have hMM := markV_step (x0 := .string (mT kk)) (x1 := .int .i64 ((kk : Int) + 1)) hF2 hM2 hlt (by rw [show kk = 1 + 2 * i from by omega]) (by congr 1; omega)
      have hFF := (hF2.set (i * 2) (.string (mT kk))).set (i * 2 + 1) (.int .i64 ((kk : Int) + 1))
      have o3 : ∀ j, j < w.heap.size → some (⟨g, 0, none⟩ : Addr) ≠ some ⟨j, 0, none⟩ → ((w2.setCell ⟨g, i * 2, none⟩ (.string (mT kk))).setCell ⟨g, i * 2 + 1, none⟩ (.int .i64 ((kk : Int) + 1))).heap[j]? = w.heap[j]? := fun j hj hne => by
        have hjg : j ≠ g := fun e => hne (by rw [e])
        exact (Below.heap_setCell _ _ _ _ hjg).trans ((Below.heap_setCell _ _ _ _ hjg).trans (o2 j hj hne))
      clear hF hMk hb2 hF2 hM2
      go_wp2
      go_roundw
      case rel => exact ⟨i + 1, kk + 2, by omega, by go_num, ⟨by omega, by omega⟩, by go_num, (b2.setCell (by exact hg1) _).setCell (by exact hg1) _, o3, fun g' e hp => by cases e; exact ⟨hFF, hMM⟩⟩
      case measure => simp [intOf]; omega
    · have e : i = n := by omega
      subst e
      go_wp2
      go_ret
      exact ⟨by rw [show 1 + 2 * i = kk from by omega]; rfl, fun g hg hp => (hM g hg hp).2, hoth, hb⟩

set_option maxHeartbeats 2000000 in
theorem heldVarS_any (a : Option Addr) (n cap : Nat) (w : World) (hn : n ≤ 1048580) (hA : 0 < n → ∃ g, a = some ⟨g, 0, none⟩ ∧ g < w.heap.size ∧ MarkedV w g 1 n) :
    Calls Try.prog 24 #[.slice a n cap, .int .i64 1] w fun e w' => e = .returned (.int .i64 ((1 + 2 * n : Nat) : Int)) ∧ Below w.heap.size w w' := by
  go_enter Try.func24, Try.ntmps24
  go_wp2
  go_loopw [1, 5] (fun t1 t5 wr => ∃ i kk : Nat, i ≤ n ∧ t5 = .int .i64 (i : Int) ∧ (kk ≤ 1 + 2 * i ∧ 1 + 2 * i ≤ kk) ∧ t1 = .int .i64 (kk : Int) ∧ Below w.heap.size w wr) (fun _ t5 _ => n - (intOf t5).toNat)
  case atStart => exact ⟨0, 1, Nat.zero_le _, rfl, ⟨by omega, by omega⟩, rfl, Below.refl _ _⟩
  case round =>
    rename World => wo
    obtain ⟨i, kk, hi, rfl, ⟨hka, hkb⟩, rfl, hb⟩ := hrel
    by_cases hlt : i < n
    · obtain ⟨g, rfl, hg, hM⟩ := hA (by omega)
      obtain ⟨m0, m1⟩ := (hM.stays hb hg) i hlt
      rw [show 1 + 2 * i = kk from by omega] at m0 m1
      have hz := hb.size
      have hgo : g < wo.heap.size := by omega
      have i0 : (0 : Int) ≤ (i : Int) := by omega
      have i1 : (i : Int) < (n : Int) := by omega
      clear hA hM
      go_wp2_with fail
      refine region_last (fun x => x.cell? ⟨g, i * 2, none⟩ = some (.string (mT kk))) (by kernel_rfl) (by kernel_rfl) (by kernel_rfl) m0 (fun hHeld => ?_)
      simp only [List.dropLast, List.length_cons, List.length_nil, Nat.reduceAdd]
      refine takeL (i := 0) (v := ?_) rfl (by kernel_rfl) (by kernel_rfl) (by kernel_rfl) (fun _ _ _ h => h) rfl (by assumption) ?_ ?_
      rotate_left
      · (intro wS hSw; (try dsimp only at hSw); go_simp; try with_reducible rfl)
      (try simp only [Act.put, List.setIfInBounds_toArray, List.set_cons_zero, List.set_cons_succ])
      refine takeL (i := 1) (v := ?_) rfl (by kernel_rfl) (by kernel_rfl) (by kernel_rfl) (fun _ _ _ h => h) rfl (by assumption) ?_ ?_
      rotate_left
      · (intro wS hSw; (try dsimp only at hSw); go_simp; try with_reducible rfl)
      (try simp only [Act.put, List.setIfInBounds_toArray, List.set_cons_zero, List.set_cons_succ])
      refine takeL (i := 2) (v := ?_) rfl (by kernel_rfl) (by kernel_rfl) (by kernel_rfl) (fun _ _ _ h => h) rfl (by assumption) ?_ ?_
      rotate_left
      · (intro wS hSw; (try dsimp only at hSw); go_simp; try with_reducible rfl)
      (try simp only [Act.put, List.setIfInBounds_toArray, List.set_cons_zero, List.set_cons_succ])
      refine takeL (i := 3) (v := ?_) rfl (by kernel_rfl) (by kernel_rfl) (by kernel_rfl) (fun _ _ _ h => h) rfl (by assumption) ?_ ?_
      rotate_left
      · (intro wS hSw; (try dsimp only at hSw); go_simp; try with_reducible rfl)
      (try simp only [Act.put, List.setIfInBounds_toArray, List.set_cons_zero, List.set_cons_succ])
      refine takeL (i := 4) (v := ?_) rfl (by kernel_rfl) (by kernel_rfl) (by kernel_rfl) (fun _ _ _ h => h) rfl (by assumption) ?_ ?_
      rotate_left
      · (intro wS hSw; (try dsimp only at hSw); go_simp; try with_reducible rfl)
      (try simp only [Act.put, List.setIfInBounds_toArray, List.set_cons_zero, List.set_cons_succ])
      refine takeL (i := 5) (v := ?_) rfl (by kernel_rfl) (by kernel_rfl) (by kernel_rfl) (fun _ _ _ h => h) rfl (by assumption) ?_ ?_
      rotate_left
      · (intro wS hSw; (try dsimp only at hSw); go_simp; try with_reducible rfl)
      (try simp only [Act.put, List.setIfInBounds_toArray, List.set_cons_zero, List.set_cons_succ])
      refine stepL (i := 6) rfl (by kernel_rfl) (fun K hK => ?_)
      rw [if_pos (by rfl)]
      go_simp
      refine (markText_any kk _ (by omega) (by omega)).mono ?_
      rintro er w2 ⟨rfl, hb2⟩
      have b2 : Below wo.heap.size wo w2 := (Below.refl _ _).drew.trans hb2
      have y0 : w2.cell? ⟨g, i * 2, none⟩ = some (.string (mT kk)) := by rw [b2.cell (by exact hgo)]; exact m0
      have y1 : w2.cell? ⟨g, i * 2 + 1, none⟩ = some (.int .i64 ((kk : Int) + 1)) := by rw [b2.cell (by exact hgo), m1]; congr 2
      refine hK.out _ _ y0 (fun hHeld2 => ?_)
      clear hK K hHeld m0 m1
      (try simp only [Act.put, List.setIfInBounds_toArray, List.set_cons_zero, List.set_cons_succ])
      refine wpAnyH_done (by kernel_rfl) ?_ _
      refine lastL (n := 7) rfl rfl ?_
      go_simp
      clear hHeld2 y0
      go_wp2
      go_roundw
      case rel => exact ⟨i + 1, kk + 2, by omega, by go_num, ⟨by omega, by omega⟩, by go_num, hb.trans (b2.mono hb.size)⟩
      case measure => simp [intOf]; omega
    · have e : i = n := by omega
      subst e
      go_wp2
      go_ret
      exact ⟨by rw [show 1 + 2 * i = kk from by omega]; rfl, hb⟩
end Go.Proofs.Ytgnfiakbcogdlan
