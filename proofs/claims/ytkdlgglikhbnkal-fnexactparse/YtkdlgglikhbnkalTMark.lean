/- Marks in rows of numbers and of texts, and whether they hold. -/
import Derived.Test.YtkdlgglikhbnkalMkText
namespace Go.Proofs.Ytkdlgglikhbnkal
open Go.ChangeShapes Go.WideShapes Go.ChangeAt Go.RowKit
set_option linter.unusedVariables false
set_option maxRecDepth 100000
attribute [local go_sem ↓] Go.wp_at_zero Go.wp_at_succ

def mI (k : Nat) : Nat → Value := fun j => .int .i64 ((k + j : Nat) : Int)
def mS (k : Nat) : Nat → Value := fun j => .string (mT (k + j))

set_option maxHeartbeats 2000000 in
theorem markIntS_any (v : Value) (n k : Nat) (f : Nat → Value) (w : World) (hn : n ≤ 10000) (hk : 1 ≤ k) (hk2 : k ≤ 100000) (hA : KidRow 3 w v n f) :
    Calls Try.prog 60 #[v, .int .i64 (k : Int)] w fun e w' => e = .returned (.int .i64 ((k + n : Nat) : Int)) ∧ Wr (fun g => v.ownBlock = some g) w w' ∧ KidRow 3 w' v n (mI k) := by
  obtain ⟨a, c, rfl, hA⟩ := hA
  go_enter Try.func60, Try.ntmps60
  go_wp2
  go_loopw [1, 5] (fun t1 t5 wr => ∃ i kk : Nat, i ≤ n ∧ t5 = .int .i64 (i : Int) ∧ (kk ≤ k + i ∧ k + i ≤ kk) ∧ t1 = .int .i64 (kk : Int) ∧ Wr (fun g => (Value.slice a n c).ownBlock = some g) w wr ∧ (0 < n → ∃ g f, a = some ⟨g, 0, none⟩ ∧ (Value.slice a n c).ownBlock = some g ∧ RowOf wr g 3 n f ∧ ∀ j, j < i → f j = mI k j)) (fun _ t5 _ => n - (intOf t5).toNat)
  case atStart => exact ⟨0, k, Nat.zero_le _, rfl, ⟨by omega, by omega⟩, rfl, Wr.refl _ _, fun hp => by obtain ⟨g, e1, e2, hr⟩ := hA hp; exact ⟨g, f, e1, e2, hr, fun j hj => absurd hj (Nat.not_lt_zero _)⟩⟩
  case round =>
    rename World => wo
    obtain ⟨i, kk, hi, rfl, ⟨hka, hkb⟩, rfl, hb, hM⟩ := hrel
    by_cases hlt : i < n
    · obtain ⟨g, f', rfl, e2, hr, hf⟩ := hM (by omega)
      have i0 : (0 : Int) ≤ (i : Int) := by omega
      have i1 : (i : Int) < (n : Int) := by omega
      have c0 := hr.cell hlt
      have f0 := hr.frozen i
      have hr1 := hr.set i (.int .i64 (kk : Int))
      have hb1 := hb.set (x := ⟨g, i, none⟩) e2 (.int .i64 (kk : Int))
      clear hM hA
      go_wp2
      go_roundw
      case rel =>
        refine ⟨i + 1, kk + 1, by omega, by go_num, ⟨by omega, by omega⟩, by go_num, hb1, fun _ => ⟨g, _, rfl, e2, hr1, fun j hj => ?_⟩⟩
        by_cases e : j = i
        · subst e
          simp only [if_pos, mI]
          congr 1
          omega
        · simp only [if_neg e]
          exact hf j (by omega)
      case measure => simp [intOf]; omega
    · have e : i = n := by omega
      subst e
      go_wp2
      go_ret
      refine ⟨by rw [show k + i = kk from by omega]; rfl, hb, a, c, rfl, fun hp => ?_⟩
      obtain ⟨g, f', e1, e2, hr, hf⟩ := hM hp
      exact ⟨g, e1, e2, hr.congr fun j hj => hf j hj⟩

set_option maxHeartbeats 2000000 in
theorem markStringS_any (v : Value) (n k : Nat) (f : Nat → Value) (w : World) (hn : n ≤ 10000) (hk : 1 ≤ k) (hk2 : k ≤ 100000) (hA : KidRow 9 w v n f) :
    Calls Try.prog 61 #[v, .int .i64 (k : Int)] w fun e w' => e = .returned (.int .i64 ((k + n : Nat) : Int)) ∧ Wr (fun g => v.ownBlock = some g) w w' ∧ KidRow 9 w' v n (mS k) := by
  obtain ⟨a, c, rfl, hA⟩ := hA
  go_enter Try.func61, Try.ntmps61
  go_wp2
  go_loopw [1, 5] (fun t1 t5 wr => ∃ i kk : Nat, i ≤ n ∧ t5 = .int .i64 (i : Int) ∧ (kk ≤ k + i ∧ k + i ≤ kk) ∧ t1 = .int .i64 (kk : Int) ∧ Wr (fun g => (Value.slice a n c).ownBlock = some g) w wr ∧ (0 < n → ∃ g f, a = some ⟨g, 0, none⟩ ∧ (Value.slice a n c).ownBlock = some g ∧ RowOf wr g 9 n f ∧ ∀ j, j < i → f j = mS k j)) (fun _ t5 _ => n - (intOf t5).toNat)
  case atStart => exact ⟨0, k, Nat.zero_le _, rfl, ⟨by omega, by omega⟩, rfl, Wr.refl _ _, fun hp => by obtain ⟨g, e1, e2, hr⟩ := hA hp; exact ⟨g, f, e1, e2, hr, fun j hj => absurd hj (Nat.not_lt_zero _)⟩⟩
  case round =>
    rename World => wo
    obtain ⟨i, kk, hi, rfl, ⟨hka, hkb⟩, rfl, hb, hM⟩ := hrel
    by_cases hlt : i < n
    · obtain ⟨g, f', rfl, e2, hr, hf⟩ := hM (by omega)
      have i0 : (0 : Int) ≤ (i : Int) := by omega
      have i1 : (i : Int) < (n : Int) := by omega
      clear hM hA
      go_wp2_with fail
      refine (markText_any kk wo (by omega) (by omega)).mono ?_
      rintro er w2 ⟨rfl, hb2⟩
      have hr2 := hr.of_block (hb2.block _ hr.lt)
      have hw2 := hb.trans (Wr.of_below hb2)
      have c0 := hr2.cell hlt
      have f0 := hr2.frozen i
      have hr1 := hr2.set i (.string (mT kk))
      have hb1 := hw2.set (x := ⟨g, i, none⟩) e2 (.string (mT kk))
      go_wp2
      go_roundw
      case rel =>
        refine ⟨i + 1, kk + 1, by omega, by go_num, ⟨by omega, by omega⟩, by go_num, hb1, fun _ => ⟨g, _, rfl, e2, hr1, fun j hj => ?_⟩⟩
        by_cases e : j = i
        · subst e
          simp only [if_pos, mS]
          rw [show kk = k + j from by omega]
        · simp only [if_neg e]
          exact hf j (by omega)
      case measure => simp [intOf]; omega
    · have e : i = n := by omega
      subst e
      go_wp2
      go_ret
      refine ⟨by rw [show k + i = kk from by omega]; rfl, hb, a, c, rfl, fun hp => ?_⟩
      obtain ⟨g, f', e1, e2, hr, hf⟩ := hM hp
      exact ⟨g, e1, e2, hr.congr fun j hj => hf j hj⟩

set_option maxHeartbeats 2000000 in
theorem heldIntS_any (v : Value) (n k : Nat) (w : World) (hn : n ≤ 10000) (hk : 1 ≤ k) (hk2 : k ≤ 100000) (hA : KidRow 3 w v n (mI k)) :
    Calls Try.prog 62 #[v, .int .i64 (k : Int)] w fun e w' => e = .returned (.int .i64 ((k + n : Nat) : Int)) ∧ Below w.heap.size w w' := by
  obtain ⟨a, c, rfl, hA⟩ := hA
  go_enter Try.func62, Try.ntmps62
  go_wp2
  go_loopw [1, 5] (fun t1 t5 wr => ∃ i kk : Nat, i ≤ n ∧ t5 = .int .i64 (i : Int) ∧ (kk ≤ k + i ∧ k + i ≤ kk) ∧ t1 = .int .i64 (kk : Int) ∧ Below w.heap.size w wr) (fun _ t5 _ => n - (intOf t5).toNat)
  case atStart => exact ⟨0, k, Nat.zero_le _, rfl, ⟨by omega, by omega⟩, rfl, Below.refl _ _⟩
  case round =>
    rename World => wo
    obtain ⟨i, kk, hi, rfl, ⟨hka, hkb⟩, rfl, hb⟩ := hrel
    by_cases hlt : i < n
    · obtain ⟨g, rfl, e2, hr⟩ := hA (by omega)
      have hr' := hr.of_block (hb.block _ hr.lt)
      have c0 : wo.cell? ⟨g, i, none⟩ = some (.int .i64 (kk : Int)) := by rw [hr'.cell hlt, mI, show k + i = kk from by omega]
      have i0 : (0 : Int) ≤ (i : Int) := by omega
      have i1 : (i : Int) < (n : Int) := by omega
      clear hA
      go_wp2
      go_roundw
      case rel => exact ⟨i + 1, kk + 1, by omega, by go_num, ⟨by omega, by omega⟩, by go_num, hb⟩
      case measure => simp [intOf]; omega
    · have e : i = n := by omega
      subst e
      go_wp2
      go_ret
      exact ⟨by rw [show k + i = kk from by omega]; rfl, hb⟩

set_option maxHeartbeats 2000000 in
theorem heldStringS_any (v : Value) (n k : Nat) (w : World) (hn : n ≤ 10000) (hk : 1 ≤ k) (hk2 : k ≤ 100000) (hA : KidRow 9 w v n (mS k)) :
    Calls Try.prog 63 #[v, .int .i64 (k : Int)] w fun e w' => e = .returned (.int .i64 ((k + n : Nat) : Int)) ∧ Below w.heap.size w w' := by
  obtain ⟨a, c, rfl, hA⟩ := hA
  go_enter Try.func63, Try.ntmps63
  go_wp2
  go_loopw [1, 5] (fun t1 t5 wr => ∃ i kk : Nat, i ≤ n ∧ t5 = .int .i64 (i : Int) ∧ (kk ≤ k + i ∧ k + i ≤ kk) ∧ t1 = .int .i64 (kk : Int) ∧ Below w.heap.size w wr) (fun _ t5 _ => n - (intOf t5).toNat)
  case atStart => exact ⟨0, k, Nat.zero_le _, rfl, ⟨by omega, by omega⟩, rfl, Below.refl _ _⟩
  case round =>
    rename World => wo
    obtain ⟨i, kk, hi, rfl, ⟨hka, hkb⟩, rfl, hb⟩ := hrel
    by_cases hlt : i < n
    · obtain ⟨g, rfl, e2, hr⟩ := hA (by omega)
      have hr' := hr.of_block (hb.block _ hr.lt)
      have m1 : wo.cell? ⟨g, i, none⟩ = some (.string (mT kk)) := by rw [hr'.cell hlt, mS, show k + i = kk from by omega]
      have hgo := hr'.lt
      have i0 : (0 : Int) ≤ (i : Int) := by omega
      have i1 : (i : Int) < (n : Int) := by omega
      clear hA
      go_wp2_with fail
      refine region_last (fun x => x.cell? ⟨g, i, none⟩ = some (.string (mT kk))) (by kernel_rfl) (by kernel_rfl) (by kernel_rfl) m1 (fun hHeld => ?_)
      simp only [List.dropLast, List.length_cons, List.length_nil, Nat.reduceAdd]
      refine takeL (i := 0) (v := ?_) rfl (by kernel_rfl) (by kernel_rfl) (by kernel_rfl) (fun _ _ _ h => h) rfl (by assumption) ?_ ?_
      rotate_left
      · (intro wS hSw; (try dsimp only at hSw); go_simp; try with_reducible rfl)
      (try simp only [Act.put, List.setIfInBounds_toArray, List.set_cons_zero, List.set_cons_succ])
      refine takeL (i := 1) (v := ?_) rfl (by kernel_rfl) (by kernel_rfl) (by kernel_rfl) (fun _ _ _ h => h) rfl (by assumption) ?_ ?_
      rotate_left
      · (intro wS hSw; (try dsimp only at hSw); go_simp; try with_reducible rfl)
      (try simp only [Act.put, List.setIfInBounds_toArray, List.set_cons_zero, List.set_cons_succ])
      refine takeL (i := 2) (v := ?_) rfl (by kernel_rfl) (by kernel_rfl) (by kernel_rfl) (fun _ _ _ h => h) rfl (by assumption) ?_ ?_
      rotate_left
      · (intro wS hSw; (try dsimp only at hSw); go_simp; try with_reducible rfl)
      (try simp only [Act.put, List.setIfInBounds_toArray, List.set_cons_zero, List.set_cons_succ])
      refine takeL (i := 3) (v := ?_) rfl (by kernel_rfl) (by kernel_rfl) (by kernel_rfl) (fun _ _ _ h => h) rfl (by assumption) ?_ ?_
      rotate_left
      · (intro wS hSw; (try dsimp only at hSw); go_simp; try with_reducible rfl)
      (try simp only [Act.put, List.setIfInBounds_toArray, List.set_cons_zero, List.set_cons_succ])
      refine takeL (i := 4) (v := ?_) rfl (by kernel_rfl) (by kernel_rfl) (by kernel_rfl) (fun _ _ _ h => h) rfl (by assumption) ?_ ?_
      rotate_left
      · (intro wS hSw; (try dsimp only at hSw); go_simp; try with_reducible rfl)
      (try simp only [Act.put, List.setIfInBounds_toArray, List.set_cons_zero, List.set_cons_succ])
      refine stepL (i := 5) rfl (by kernel_rfl) (fun K hK => ?_)
      rw [if_pos (by rfl)]
      go_simp
      refine (markText_any kk _ (by omega) (by omega)).mono ?_
      rintro er w2 ⟨rfl, hb2⟩
      have b2 : Below wo.heap.size wo w2 := (Below.refl _ _).drew.trans hb2
      have y1 : w2.cell? ⟨g, i, none⟩ = some (.string (mT kk)) := by rw [b2.cell (by exact hgo)]; exact m1
      refine hK.out _ _ y1 (fun hHeld2 => ?_)
      clear hK K hHeld m1
      (try simp only [Act.put, List.setIfInBounds_toArray, List.set_cons_zero, List.set_cons_succ])
      refine wpAnyH_done (by kernel_rfl) ?_ _
      refine lastL (n := 6) rfl rfl ?_
      go_simp
      clear hHeld2 y1
      go_wp2
      go_roundw
      case rel => exact ⟨i + 1, kk + 1, by omega, by go_num, ⟨by omega, by omega⟩, by go_num, hb.trans (b2.mono hb.size)⟩
      case measure => simp [intOf]; omega
    · have e : i = n := by omega
      subst e
      go_wp2
      go_ret
      exact ⟨by rw [show k + i = kk from by omega]; rfl, hb⟩

def nk (q : List Qn) : Nat → Nat
  | 0 => 0
  | i + 1 => nk q i + 3 + (qnAt q i).1.kids.length

def NSt (w : World) (nB : Nat) (q : List Qn) (k i : Nat) : Prop :=
  ∃ f, RowOf w nB 75 (q.length * 4) f ∧ (∀ j, j < q.length → f (j * 4 + 3) = (qnAt q j).2) ∧ (∀ j, j < q.length → ∃ h, KidRow 3 w (qnAt q j).2 (qnAt q j).1.kids.length h) ∧
    ∀ j, j < i → f (j * 4) = .int .i64 ((k + nk q j : Nat) : Int) ∧ f (j * 4 + 1) = .string (mT (k + nk q j + 1)) ∧ f (j * 4 + 2) = .int .i64 ((k + nk q j + 2 : Nat) : Int) ∧ KidRow 3 w (qnAt q j).2 (qnAt q j).1.kids.length (mI (k + nk q j + 3))

theorem NSt.stays {w w' : World} {nB : Nat} {q : List Qn} {k i : Nat} (h : NSt w nB q k i) (hb : Below w.heap.size w w') : NSt w' nB q k i := by
  obtain ⟨f, h1, h2, h3, h4⟩ := h
  refine ⟨f, h1.of_block (hb.block _ h1.lt), h2, fun j hj => ?_, fun j hj => ?_⟩
  · obtain ⟨x, hx⟩ := h3 j hj
    exact ⟨x, hx.stays hb⟩
  · obtain ⟨a1, a2, a3, a4⟩ := h4 j hj
    exact ⟨a1, a2, a3, a4.stays hb⟩

/-- Behind the marks of node i. -/
theorem NSt.step {w w4 : World} {nB : Nat} {q : List Qn} {k i : Nat} {f f' : Nat → Value} (hi : i < q.length)
    (h2 : ∀ j, j < q.length → f (j * 4 + 3) = (qnAt q j).2) (h4 : ∀ j, j < i → f (j * 4) = .int .i64 ((k + nk q j : Nat) : Int) ∧ f (j * 4 + 1) = .string (mT (k + nk q j + 1)) ∧ f (j * 4 + 2) = .int .i64 ((k + nk q j + 2 : Nat) : Int) ∧ KidRow 3 w (qnAt q j).2 (qnAt q j).1.kids.length (mI (k + nk q j + 3)))
    (h3 : ∀ j, j < q.length → ∃ h, KidRow 3 w (qnAt q j).2 (qnAt q j).1.kids.length h)
    (hrow : RowOf w4 nB 75 (q.length * 4) f') (hsame : ∀ j, j ≠ i * 4 → j ≠ i * 4 + 1 → j ≠ i * 4 + 2 → f' j = f j)
    (e0 : f' (i * 4) = .int .i64 ((k + nk q i : Nat) : Int)) (e1 : f' (i * 4 + 1) = .string (mT (k + nk q i + 1))) (e2 : f' (i * 4 + 2) = .int .i64 ((k + nk q i + 2 : Nat) : Int))
    (hkeep : ∀ j, j < q.length → j ≠ i → ∀ g, (qnAt q j).2.ownBlock = some g → g < w.heap.size → w4.heap[g]? = w.heap[g]?) (hkid : KidRow 3 w4 (qnAt q i).2 (qnAt q i).1.kids.length (mI (k + nk q i + 3))) : NSt w4 nB q k (i + 1) := by
  refine ⟨f', hrow, fun j hj => by rw [hsame _ (by omega) (by omega) (by omega), h2 j hj], fun j hj => ?_, fun j hj => ?_⟩
  · by_cases e : j = i
    · subst e; exact ⟨_, hkid⟩
    · obtain ⟨x, hx⟩ := h3 j hj
      exact ⟨x, hx.keep (hkeep j hj e)⟩
  · by_cases e : j = i
    · subst e; exact ⟨e0, e1, e2, hkid⟩
    · obtain ⟨a1, a2, a3, a4⟩ := h4 j (by omega)
      refine ⟨by rw [hsame _ (by omega) (by omega) (by omega), a1], by rw [hsame _ (by omega) (by omega) (by omega), a2], by rw [hsame _ (by omega) (by omega) (by omega), a3], a4.keep (hkeep j (by omega) e)⟩

set_option maxHeartbeats 4000000 in
theorem markNodeS_any (a : Option Addr) (c k : Nat) (q : List Qn) (w : World) (hq : q.length ≤ 1000) (hb : ∀ i, i ≤ q.length → nk q i ≤ 10000) (hk : 1 ≤ k) (hk2 : k ≤ 10)
    (hap : ∀ i, i < q.length → ∀ g, (qnAt q i).2.ownBlock = some g → (Value.slice a q.length c).ownBlock ≠ some g ∧ ∀ j, j < q.length → j ≠ i → (qnAt q j).2.ownBlock ≠ some g)
    (hA : 0 < q.length → ∃ nB, a = some ⟨nB, 0, none⟩ ∧ (Value.slice a q.length c).ownBlock = some nB ∧ NSt w nB q k 0) :
    Calls Try.prog 47 #[.slice a q.length c, .int .i64 (k : Int)] w fun e w' => e = .returned (.int .i64 ((k + nk q q.length : Nat) : Int)) ∧ Wr (fun g => (Value.slice a q.length c).ownBlock = some g ∨ ∃ i, i < q.length ∧ (qnAt q i).2.ownBlock = some g) w w' ∧ (0 < q.length → ∃ nB, a = some ⟨nB, 0, none⟩ ∧ NSt w' nB q k q.length) := by
  go_enter Try.func47, Try.ntmps47
  go_wp2
  go_loopw [1, 5] (fun t1 t5 wr => ∃ i kk : Nat, i ≤ q.length ∧ t5 = .int .i64 (i : Int) ∧ (kk ≤ k + nk q i ∧ k + nk q i ≤ kk) ∧ t1 = .int .i64 (kk : Int) ∧ Wr (fun g => (Value.slice a q.length c).ownBlock = some g ∨ ∃ i, i < q.length ∧ (qnAt q i).2.ownBlock = some g) w wr ∧ (0 < q.length → ∃ nB, a = some ⟨nB, 0, none⟩ ∧ (Value.slice a q.length c).ownBlock = some nB ∧ NSt wr nB q k i)) (fun _ t5 _ => q.length - (intOf t5).toNat)
  case atStart => exact ⟨0, k, Nat.zero_le _, rfl, ⟨by simp [nk], by simp [nk]⟩, rfl, Wr.refl _ _, hA⟩
  case round =>
    rename World => wo
    obtain ⟨i, kk, hi, rfl, ⟨hka, hkb⟩, rfl, hW, hM⟩ := hrel
    clear hA
    by_cases hlt : i < q.length
    · obtain ⟨nB, rfl, eB, f, h1, h2, h3, h4⟩ := hM (by omega)
      have hbi := hb i (by omega)
      have hbs := hb (i + 1) hlt
      have hnk : nk q (i + 1) = nk q i + 3 + (qnAt q i).1.kids.length := rfl
      rw [hnk] at hbs
      change Hid _ at hnk
      have i0 : (0 : Int) ≤ (i : Int) := by omega
      have i1 : (i : Int) < (q.length : Int) := by omega
      obtain ⟨hx, hxk⟩ := h3 i hlt
      have hapi := hap i hlt
      have c0 := h1.cell (show i * 4 < q.length * 4 by omega)
      have f0 := h1.frozen (i * 4)
      have r1 := h1.set (i * 4) (.int .i64 (kk : Int))
      have W1 := hW.set (x := ⟨nB, i * 4, none⟩) (.inl eB) (.int .i64 (kk : Int))
      have kk1 : ∀ j, j < q.length → ∀ g, (qnAt q j).2.ownBlock = some g → (wo.setCell ⟨nB, i * 4, none⟩ (.int .i64 (kk : Int))).heap[g]? = wo.heap[g]? := fun j hj g hg => Below.heap_setCell _ _ _ _ (fun e => (hap j hj g hg).1 (by have e' : g = nB := e; rw [e']; exact eB))
      clear hM
      go_wp2_with fail
      clear c0 f0
      generalize wo.setCell ⟨nB, i * 4, none⟩ (.int .i64 (kk : Int)) = w1 at r1 W1 kk1 ⊢
      rw [show (kk : Int) + 1 = ((kk + 1 : Nat) : Int) from by omega]
      refine (markText_any (kk + 1) w1 (by omega) (by omega)).mono ?_
      rintro er w2 ⟨rfl, hb2⟩
      have r2 := r1.of_block (hb2.block _ r1.lt)
      have W2 := W1.trans (Wr.of_below hb2)
      have c1 := r2.cell (show i * 4 + 1 < q.length * 4 by omega)
      have f1 := r2.frozen (i * 4 + 1)
      have c2 := r2.cell (show i * 4 + 2 < q.length * 4 by omega)
      have f2 := r2.frozen (i * 4 + 2)
      have r3 := (r2.set (i * 4 + 1) (.string (mT (kk + 1)))).set (i * 4 + 2) (.int .i64 ((kk : Int) + 1 + 1))
      have W3 := (W2.set (x := ⟨nB, i * 4 + 1, none⟩) (.inl eB) (.string (mT (kk + 1)))).set (x := ⟨nB, i * 4 + 2, none⟩) (.inl eB) (.int .i64 ((kk : Int) + 1 + 1))
      have kk3 : ∀ j, j < q.length → ∀ g, (qnAt q j).2.ownBlock = some g → g < wo.heap.size → ((w2.setCell ⟨nB, i * 4 + 1, none⟩ (.string (mT (kk + 1)))).setCell ⟨nB, i * 4 + 2, none⟩ (.int .i64 ((kk : Int) + 1 + 1))).heap[g]? = wo.heap[g]? := fun j hj g hg hl => by
        have hne : g ≠ nB := fun e => (hap j hj g hg).1 (by rw [e]; exact eB)
        rw [Below.heap_setCell _ _ _ _ hne, Below.heap_setCell _ _ _ _ hne]
        have e1 := kk1 j hj g hg
        have hl1 : g < w1.heap.size := by
          rw [Array.getElem?_eq_getElem hl] at e1
          exact (Array.getElem?_eq_some_iff.1 e1).1
        rw [hb2.block g hl1, e1]
      obtain ⟨ka, kc, hkv, _⟩ := id hxk
      have c3 : ((w2.setCell ⟨nB, i * 4 + 1, none⟩ (.string (mT (kk + 1)))).setCell ⟨nB, i * 4 + 2, none⟩ (.int .i64 ((kk : Int) + 1 + 1))).cell? ⟨nB, i * 4 + 3, none⟩ = some (.slice ka (qnAt q i).1.kids.length kc) := by
        rw [r3.cell (show i * 4 + 3 < q.length * 4 by omega)]
        simp only [if_neg (show ¬ i * 4 + 3 = i * 4 + 2 by omega), if_neg (show ¬ i * 4 + 3 = i * 4 + 1 by omega), if_neg (show ¬ i * 4 + 3 = i * 4 by omega)]
        rw [h2 i hlt, hkv]
      have hxk3 := hxk.keep fun g hg hl => kk3 i hlt g hg hl
      rw [hkv] at hxk3
      clear hW W1 W2 kk1
      go_wp2_with fail
      rw [show (kk : Int) + 1 + 1 + 1 = ((kk + 3 : Nat) : Int) from by omega]
      refine (markIntS_any _ _ (kk + 3) hx _ (by omega) (by omega) (by omega) hxk3).mono ?_
      rintro er w4 ⟨rfl, hW4, hK4⟩
      have hxn : ∀ g, (Value.slice ka (qnAt q i).1.kids.length kc).ownBlock = some g → (qnAt q i).2.ownBlock = some g := fun g hg => by rw [hkv]; exact hg
      have W4 := W3.trans (hW4.imp fun g hg => .inr ⟨i, hlt, hxn g hg⟩)
      have r4 := r3.of_block (hW4.block nB r3.lt (fun e => (hapi nB (hxn nB e)).1 eB))
      rw [← hkv] at hK4
      have hN4 : NSt w4 nB q k (i + 1) := by
        refine NSt.step (w := wo) hlt h2 h4 h3 r4 (fun j e1 e2 e3 => ?_) ?_ ?_ ?_ (fun j hj hne g hg hl => ?_) ?_
        · simp only [if_neg e3, if_neg e2, if_neg e1]
        · simp only [if_neg (show ¬ i * 4 = i * 4 + 2 by omega), if_neg (show ¬ i * 4 = i * 4 + 1 by omega), if_pos]
          congr 1; omega
        · simp only [if_neg (show ¬ i * 4 + 1 = i * 4 + 2 by omega), if_pos]
          rw [show kk + 1 = k + nk q i + 1 by omega]
        · simp only [if_pos]
          congr 1; omega
        · rw [hW4.block g ?_ (fun e => (hapi g (hxn g e)).2 j hj hne hg), kk3 j hj g hg hl]
          have e1 := kk3 j hj g hg hl
          rw [Array.getElem?_eq_getElem hl] at e1
          exact (Array.getElem?_eq_some_iff.1 e1).1
        · rw [show k + nk q i + 3 = kk + 3 by omega]; exact hK4
      clear r4 r3 r2 r1 hK4 hW4 W3 kk3 hxk hxk3 h1 h2 h3 h4 c1 c2 c3 f1 f2
      go_wp2
      go_roundw
      case rel => exact ⟨i + 1, kk + 3 + (qnAt q i).1.kids.length, by omega, by go_num, ⟨by rw [hnk.out]; omega, by rw [hnk.out]; omega⟩, by go_num, W4, fun _ => ⟨nB, rfl, eB, hN4⟩⟩
      case measure => simp [intOf]; omega
    · have e : i = q.length := by omega
      have e' : Hid (i = q.length) := e
      go_wp2
      go_ret
      exact ⟨by rw [← e'.out, show k + nk q i = kk from by omega]; rfl, hW, fun hp => by obtain ⟨nB, e1, e2, h⟩ := hM hp; exact ⟨nB, e1, by rw [← e'.out]; exact h⟩⟩

set_option maxHeartbeats 4000000 in
theorem heldNodeS_any (a : Option Addr) (c k : Nat) (q : List Qn) (w : World) (hq : q.length ≤ 1000) (hb : ∀ i, i ≤ q.length → nk q i ≤ 10000) (hk : 1 ≤ k) (hk2 : k ≤ 10)
    (hA : 0 < q.length → ∃ nB, a = some ⟨nB, 0, none⟩ ∧ NSt w nB q k q.length) :
    Calls Try.prog 49 #[.slice a q.length c, .int .i64 (k : Int)] w fun e w' => e = .returned (.int .i64 ((k + nk q q.length : Nat) : Int)) ∧ Below w.heap.size w w' := by
  go_enter Try.func49, Try.ntmps49
  go_wp2
  go_loopw [1, 5] (fun t1 t5 wr => ∃ i kk : Nat, i ≤ q.length ∧ t5 = .int .i64 (i : Int) ∧ (kk ≤ k + nk q i ∧ k + nk q i ≤ kk) ∧ t1 = .int .i64 (kk : Int) ∧ Below w.heap.size w wr) (fun _ t5 _ => q.length - (intOf t5).toNat)
  case atStart => exact ⟨0, k, Nat.zero_le _, rfl, ⟨by simp [nk], by simp [nk]⟩, rfl, Below.refl _ _⟩
  case round =>
    rename World => wo
    obtain ⟨i, kk, hi, rfl, ⟨hka, hkb⟩, rfl, hW⟩ := hrel
    by_cases hlt : i < q.length
    · obtain ⟨nB, rfl, hN⟩ := hA (by omega)
      obtain ⟨f, h1, h2, h3, h4⟩ := hN.stays hW
      have hbi := hb i (by omega)
      have hbs := hb (i + 1) hlt
      have hnk : nk q (i + 1) = nk q i + 3 + (qnAt q i).1.kids.length := rfl
      rw [hnk] at hbs
      change Hid _ at hnk
      obtain ⟨a1, a2, a3, a4⟩ := h4 i hlt
      have i0 : (0 : Int) ≤ (i : Int) := by omega
      have i1 : (i : Int) < (q.length : Int) := by omega
      have m0 : wo.cell? ⟨nB, i * 4, none⟩ = some (.int .i64 (kk : Int)) := by rw [h1.cell (show i * 4 < q.length * 4 by omega), a1]; congr 2; omega
      have m1 : wo.cell? ⟨nB, i * 4 + 1, none⟩ = some (.string (mT (kk + 1))) := by rw [h1.cell (show i * 4 + 1 < q.length * 4 by omega), a2, show k + nk q i + 1 = kk + 1 by omega]
      have m2 : wo.cell? ⟨nB, i * 4 + 2, none⟩ = some (.int .i64 ((kk : Int) + 1 + 1)) := by rw [h1.cell (show i * 4 + 2 < q.length * 4 by omega), a3]; congr 2; omega
      obtain ⟨ka, kc, hkv, _⟩ := id a4
      have m3 : wo.cell? ⟨nB, i * 4 + 3, none⟩ = some (.slice ka (qnAt q i).1.kids.length kc) := by rw [h1.cell (show i * 4 + 3 < q.length * 4 by omega), h2 i hlt, hkv]
      have hgo := h1.lt
      rw [hkv, show k + nk q i + 3 = kk + 3 by omega] at a4
      clear hA hN h1 h2 h3 h4 a1 a2 a3
      go_wp2_with fail
      refine region_last (fun x => x.cell? ⟨nB, i * 4 + 1, none⟩ = some (.string (mT (kk + 1)))) (by kernel_rfl) (by kernel_rfl) (by kernel_rfl) m1 (fun hHeld => ?_)
      simp only [List.dropLast, List.length_cons, List.length_nil, Nat.reduceAdd]
      refine takeL (i := 0) (v := ?_) rfl (by kernel_rfl) (by kernel_rfl) (by kernel_rfl) (fun _ _ _ h => h) rfl (by assumption) ?_ ?_
      rotate_left
      · (intro wS hSw; (try dsimp only at hSw); go_simp; try with_reducible rfl)
      (try simp only [Act.put, List.setIfInBounds_toArray, List.set_cons_zero, List.set_cons_succ])
      refine takeL (i := 1) (v := ?_) rfl (by kernel_rfl) (by kernel_rfl) (by kernel_rfl) (fun _ _ _ h => h) rfl (by assumption) ?_ ?_
      rotate_left
      · (intro wS hSw; (try dsimp only at hSw); go_simp; try with_reducible rfl)
      (try simp only [Act.put, List.setIfInBounds_toArray, List.set_cons_zero, List.set_cons_succ])
      refine takeL (i := 2) (v := ?_) rfl (by kernel_rfl) (by kernel_rfl) (by kernel_rfl) (fun _ _ _ h => h) rfl (by assumption) ?_ ?_
      rotate_left
      · (intro wS hSw; (try dsimp only at hSw); go_simp; try with_reducible rfl)
      (try simp only [Act.put, List.setIfInBounds_toArray, List.set_cons_zero, List.set_cons_succ])
      refine takeL (i := 3) (v := ?_) rfl (by kernel_rfl) (by kernel_rfl) (by kernel_rfl) (fun _ _ _ h => h) rfl (by assumption) ?_ ?_
      rotate_left
      · (intro wS hSw; (try dsimp only at hSw); go_simp; try with_reducible rfl)
      (try simp only [Act.put, List.setIfInBounds_toArray, List.set_cons_zero, List.set_cons_succ])
      refine takeL (i := 4) (v := ?_) rfl (by kernel_rfl) (by kernel_rfl) (by kernel_rfl) (fun _ _ _ h => h) rfl (by assumption) ?_ ?_
      rotate_left
      · (intro wS hSw; (try dsimp only at hSw); go_simp; try with_reducible rfl)
      (try simp only [Act.put, List.setIfInBounds_toArray, List.set_cons_zero, List.set_cons_succ])
      refine takeL (i := 5) (v := ?_) rfl (by kernel_rfl) (by kernel_rfl) (by kernel_rfl) (fun _ _ _ h => h) rfl (by assumption) ?_ ?_
      rotate_left
      · (intro wS hSw; (try dsimp only at hSw); go_simp; try with_reducible rfl)
      (try simp only [Act.put, List.setIfInBounds_toArray, List.set_cons_zero, List.set_cons_succ])
      refine stepL (i := 6) rfl (by kernel_rfl) (fun K hK => ?_)
      rw [if_pos (by rfl)]
      go_simp
      rw [show (kk : Int) + 1 = ((kk + 1 : Nat) : Int) from by omega]
      refine (markText_any (kk + 1) _ (by omega) (by omega)).mono ?_
      rintro er w2 ⟨rfl, hb2⟩
      have b2 : Below wo.heap.size wo w2 := (Below.refl _ _).drew.trans hb2
      have y1 : w2.cell? ⟨nB, i * 4 + 1, none⟩ = some (.string (mT (kk + 1))) := by rw [b2.cell (by exact hgo)]; exact m1
      have y2 : w2.cell? ⟨nB, i * 4 + 2, none⟩ = some (.int .i64 ((kk : Int) + 1 + 1)) := by rw [b2.cell (by exact hgo)]; exact m2
      have y3 : w2.cell? ⟨nB, i * 4 + 3, none⟩ = some (.slice ka (qnAt q i).1.kids.length kc) := by rw [b2.cell (by exact hgo)]; exact m3
      have a5 := a4.stays b2
      refine hK.out _ _ y1 (fun hHeld2 => ?_)
      clear hK K hHeld m0 m1 m2 m3 a4
      (try simp only [Act.put, List.setIfInBounds_toArray, List.set_cons_zero, List.set_cons_succ])
      refine wpAnyH_done (by kernel_rfl) ?_ _
      refine lastL (n := 7) rfl rfl ?_
      go_simp
      clear hHeld2 y1
      go_wp2_with fail
      rw [show (kk : Int) + 1 + 1 + 1 = ((kk + 3 : Nat) : Int) from by omega]
      refine (heldIntS_any _ _ (kk + 3) _ (by omega) (by omega) (by omega) a5).mono ?_
      rintro er w3 ⟨rfl, hb3⟩
      have hnn : ¬ ((kk + 3 + (qnAt q i).1.kids.length : Nat) : Int) < 0 := by omega
      have B3 := hW.trans ((b2.trans (hb3.mono b2.size)).mono hW.size)
      clear y2 y3 a5
      go_wp2
      go_roundw
      case rel => exact ⟨i + 1, kk + 3 + (qnAt q i).1.kids.length, by omega, by go_num, ⟨by rw [hnk.out]; omega, by rw [hnk.out]; omega⟩, by go_num, B3⟩
      case measure => simp [intOf]; omega
    · have e : i = q.length := by omega
      have e' : Hid (i = q.length) := e
      go_wp2
      go_ret
      exact ⟨by rw [← e'.out, show k + nk q i = kk from by omega]; rfl, hW⟩

def pk (p : List Qp) : Nat → Nat
  | 0 => 0
  | i + 1 => pk p i + 2 + (qpAt p i).1.ps.length

def PSt (w : World) (pB : Nat) (p : List Qp) (k i : Nat) : Prop :=
  ∃ f, RowOf w pB 52 (p.length * 3) f ∧ (∀ j, j < p.length → f (j * 3 + 1) = (qpAt p j).2) ∧ (∀ j, j < p.length → ∃ h, KidRow 9 w (qpAt p j).2 (qpAt p j).1.ps.length h) ∧
    ∀ j, j < i → f (j * 3) = .string (mT (k + pk p j)) ∧ f (j * 3 + 2) = .int .i64 ((k + pk p j + 1 + (qpAt p j).1.ps.length : Nat) : Int) ∧ KidRow 9 w (qpAt p j).2 (qpAt p j).1.ps.length (mS (k + pk p j + 1))

theorem PSt.stays {w w' : World} {pB : Nat} {p : List Qp} {k i : Nat} (h : PSt w pB p k i) (hb : Below w.heap.size w w') : PSt w' pB p k i := by
  obtain ⟨f, h1, h2, h3, h4⟩ := h
  refine ⟨f, h1.of_block (hb.block _ h1.lt), h2, fun j hj => ?_, fun j hj => ?_⟩
  · obtain ⟨x, hx⟩ := h3 j hj
    exact ⟨x, hx.stays hb⟩
  · obtain ⟨a1, a2, a4⟩ := h4 j hj
    exact ⟨a1, a2, a4.stays hb⟩

theorem PSt.step {w w4 : World} {pB : Nat} {p : List Qp} {k i : Nat} {f f' : Nat → Value} (hi : i < p.length)
    (h2 : ∀ j, j < p.length → f (j * 3 + 1) = (qpAt p j).2) (h4 : ∀ j, j < i → f (j * 3) = .string (mT (k + pk p j)) ∧ f (j * 3 + 2) = .int .i64 ((k + pk p j + 1 + (qpAt p j).1.ps.length : Nat) : Int) ∧ KidRow 9 w (qpAt p j).2 (qpAt p j).1.ps.length (mS (k + pk p j + 1)))
    (h3 : ∀ j, j < p.length → ∃ h, KidRow 9 w (qpAt p j).2 (qpAt p j).1.ps.length h)
    (hrow : RowOf w4 pB 52 (p.length * 3) f') (hsame : ∀ j, j ≠ i * 3 → j ≠ i * 3 + 2 → f' j = f j)
    (e0 : f' (i * 3) = .string (mT (k + pk p i))) (e2 : f' (i * 3 + 2) = .int .i64 ((k + pk p i + 1 + (qpAt p i).1.ps.length : Nat) : Int))
    (hkeep : ∀ j, j < p.length → j ≠ i → ∀ g, (qpAt p j).2.ownBlock = some g → g < w.heap.size → w4.heap[g]? = w.heap[g]?) (hkid : KidRow 9 w4 (qpAt p i).2 (qpAt p i).1.ps.length (mS (k + pk p i + 1))) : PSt w4 pB p k (i + 1) := by
  refine ⟨f', hrow, fun j hj => by rw [hsame _ (by omega) (by omega), h2 j hj], fun j hj => ?_, fun j hj => ?_⟩
  · by_cases e : j = i
    · subst e; exact ⟨_, hkid⟩
    · obtain ⟨x, hx⟩ := h3 j hj
      exact ⟨x, hx.keep (hkeep j hj e)⟩
  · by_cases e : j = i
    · subst e; exact ⟨e0, e2, hkid⟩
    · obtain ⟨a1, a2, a4⟩ := h4 j (by omega)
      exact ⟨by rw [hsame _ (by omega) (by omega), a1], by rw [hsame _ (by omega) (by omega), a2], a4.keep (hkeep j (by omega) e)⟩

set_option maxHeartbeats 4000000 in
theorem markProcS_any (a : Option Addr) (c k : Nat) (p : List Qp) (w : World) (hq : p.length ≤ 10000) (hb : ∀ i, i ≤ p.length → pk p i ≤ 10000) (hk : 1 ≤ k) (hk2 : k ≤ 20000)
    (hap : ∀ i, i < p.length → ∀ g, (qpAt p i).2.ownBlock = some g → (Value.slice a p.length c).ownBlock ≠ some g ∧ ∀ j, j < p.length → j ≠ i → (qpAt p j).2.ownBlock ≠ some g)
    (hA : 0 < p.length → ∃ pB, a = some ⟨pB, 0, none⟩ ∧ (Value.slice a p.length c).ownBlock = some pB ∧ PSt w pB p k 0) :
    Calls Try.prog 48 #[.slice a p.length c, .int .i64 (k : Int)] w fun e w' => e = .returned (.int .i64 ((k + pk p p.length : Nat) : Int)) ∧ Wr (fun g => (Value.slice a p.length c).ownBlock = some g ∨ ∃ i, i < p.length ∧ (qpAt p i).2.ownBlock = some g) w w' ∧ (0 < p.length → ∃ pB, a = some ⟨pB, 0, none⟩ ∧ PSt w' pB p k p.length) := by
  go_enter Try.func48, Try.ntmps48
  go_wp2
  go_loopw [1, 5] (fun t1 t5 wr => ∃ i kk : Nat, i ≤ p.length ∧ t5 = .int .i64 (i : Int) ∧ (kk ≤ k + pk p i ∧ k + pk p i ≤ kk) ∧ t1 = .int .i64 (kk : Int) ∧ Wr (fun g => (Value.slice a p.length c).ownBlock = some g ∨ ∃ i, i < p.length ∧ (qpAt p i).2.ownBlock = some g) w wr ∧ (0 < p.length → ∃ pB, a = some ⟨pB, 0, none⟩ ∧ (Value.slice a p.length c).ownBlock = some pB ∧ PSt wr pB p k i)) (fun _ t5 _ => p.length - (intOf t5).toNat)
  case atStart => exact ⟨0, k, Nat.zero_le _, rfl, ⟨by simp [pk], by simp [pk]⟩, rfl, Wr.refl _ _, hA⟩
  case round =>
    rename World => wo
    obtain ⟨i, kk, hi, rfl, ⟨hka, hkb⟩, rfl, hW, hM⟩ := hrel
    clear hA
    by_cases hlt : i < p.length
    · obtain ⟨pB, rfl, eB, f, h1, h2, h3, h4⟩ := hM (by omega)
      have hbi := hb i (by omega)
      have hbs := hb (i + 1) hlt
      have hpk : pk p (i + 1) = pk p i + 2 + (qpAt p i).1.ps.length := rfl
      rw [hpk] at hbs
      change Hid _ at hpk
      have i0 : (0 : Int) ≤ (i : Int) := by omega
      have i1 : (i : Int) < (p.length : Int) := by omega
      obtain ⟨hx, hxk⟩ := h3 i hlt
      have hapi := hap i hlt
      clear hM
      go_wp2_with fail
      refine (markText_any kk wo (by omega) (by omega)).mono ?_
      rintro er w2 ⟨rfl, hb2⟩
      have r2 := h1.of_block (hb2.block _ h1.lt)
      have W2 := hW.trans (Wr.of_below hb2)
      have c0 := r2.cell (show i * 3 < p.length * 3 by omega)
      have f0 := r2.frozen (i * 3)
      have r3 := r2.set (i * 3) (.string (mT kk))
      have W3 := W2.set (x := ⟨pB, i * 3, none⟩) (.inl eB) (.string (mT kk))
      have kk3 : ∀ j, j < p.length → ∀ g, (qpAt p j).2.ownBlock = some g → g < wo.heap.size → (w2.setCell ⟨pB, i * 3, none⟩ (.string (mT kk))).heap[g]? = wo.heap[g]? := fun j hj g hg hl => by
        have hne : g ≠ pB := fun e => (hap j hj g hg).1 (by rw [e]; exact eB)
        rw [Below.heap_setCell _ _ _ _ hne, hb2.block g hl]
      obtain ⟨ka, kc, hkv, _⟩ := id hxk
      have c1 : (w2.setCell ⟨pB, i * 3, none⟩ (.string (mT kk))).cell? ⟨pB, i * 3 + 1, none⟩ = some (.slice ka (qpAt p i).1.ps.length kc) := by
        rw [r3.cell (show i * 3 + 1 < p.length * 3 by omega)]
        simp only [if_neg (show ¬ i * 3 + 1 = i * 3 by omega)]
        rw [h2 i hlt, hkv]
      have hxk3 := hxk.keep fun g hg hl => kk3 i hlt g hg hl
      rw [hkv] at hxk3
      clear hW W2
      go_wp2_with fail
      rw [show (kk : Int) + 1 = ((kk + 1 : Nat) : Int) from by omega]
      refine (markStringS_any _ _ (kk + 1) hx _ (by omega) (by omega) (by omega) hxk3).mono ?_
      rintro er w4 ⟨rfl, hW4, hK4⟩
      have hxn : ∀ g, (Value.slice ka (qpAt p i).1.ps.length kc).ownBlock = some g → (qpAt p i).2.ownBlock = some g := fun g hg => by rw [hkv]; exact hg
      have W4 := W3.trans (hW4.imp fun g hg => .inr ⟨i, hlt, hxn g hg⟩)
      have r4 := r3.of_block (hW4.block pB r3.lt (fun e => (hapi pB (hxn pB e)).1 eB))
      have c2 := r4.cell (show i * 3 + 2 < p.length * 3 by omega)
      have f2 := r4.frozen (i * 3 + 2)
      have r5 := r4.set (i * 3 + 2) (.int .i64 ((kk + 1 + (qpAt p i).1.ps.length : Nat) : Int))
      have W5 := W4.set (x := ⟨pB, i * 3 + 2, none⟩) (.inl eB) (.int .i64 ((kk + 1 + (qpAt p i).1.ps.length : Nat) : Int))
      rw [← hkv] at hK4
      have kk5 : ∀ g, g ≠ pB → (w4.setCell ⟨pB, i * 3 + 2, none⟩ (.int .i64 ((kk + 1 + (qpAt p i).1.ps.length : Nat) : Int))).heap[g]? = w4.heap[g]? := fun g hg => Below.heap_setCell _ _ _ _ hg
      have hN5 : PSt (w4.setCell ⟨pB, i * 3 + 2, none⟩ (.int .i64 ((kk + 1 + (qpAt p i).1.ps.length : Nat) : Int))) pB p k (i + 1) := by
        refine PSt.step (w := wo) hlt h2 h4 h3 r5 (fun j e1 e2 => ?_) ?_ ?_ (fun j hj hne g hg hl => ?_) ?_
        · simp only [if_neg e2, if_neg e1]
        · simp only [if_neg (show ¬ i * 3 = i * 3 + 2 by omega), if_pos]
          rw [show kk = k + pk p i by omega]
        · simp only [if_pos]
          congr 1; omega
        · rw [kk5 g (fun e => (hap j hj g hg).1 (by rw [e]; exact eB)), hW4.block g ?_ (fun e => (hapi g (hxn g e)).2 j hj hne hg), kk3 j hj g hg hl]
          have e1 := kk3 j hj g hg hl
          rw [Array.getElem?_eq_getElem hl] at e1
          exact (Array.getElem?_eq_some_iff.1 e1).1
        · rw [show k + pk p i + 1 = kk + 1 by omega]
          exact hK4.keep fun g hg _ => kk5 g (fun e => (hapi g hg).1 (by rw [e]; exact eB))
      clear r5 r4 r3 r2 hK4 hW4 W4 W3 kk3 kk5 hxk hxk3 h1 h2 h3 h4
      go_wp2
      go_roundw
      case rel => exact ⟨i + 1, kk + 1 + (qpAt p i).1.ps.length + 1, by omega, by go_num, ⟨by rw [hpk.out]; omega, by rw [hpk.out]; omega⟩, by go_num, W5, fun _ => ⟨pB, rfl, eB, hN5⟩⟩
      case measure => simp [intOf]; omega
    · have e : i = p.length := by omega
      have e' : Hid (i = p.length) := e
      go_wp2
      go_ret
      exact ⟨by rw [← e'.out, show k + pk p i = kk from by omega]; rfl, hW, fun hp => by obtain ⟨pB, e1, e2, h⟩ := hM hp; exact ⟨pB, e1, by rw [← e'.out]; exact h⟩⟩

set_option maxHeartbeats 4000000 in
theorem heldProcS_any (a : Option Addr) (c k : Nat) (p : List Qp) (w : World) (hq : p.length ≤ 10000) (hb : ∀ i, i ≤ p.length → pk p i ≤ 10000) (hk : 1 ≤ k) (hk2 : k ≤ 20000)
    (hA : 0 < p.length → ∃ pB, a = some ⟨pB, 0, none⟩ ∧ PSt w pB p k p.length) :
    Calls Try.prog 50 #[.slice a p.length c, .int .i64 (k : Int)] w fun e w' => e = .returned (.int .i64 ((k + pk p p.length : Nat) : Int)) ∧ Below w.heap.size w w' := by
  go_enter Try.func50, Try.ntmps50
  go_wp2
  go_loopw [1, 5] (fun t1 t5 wr => ∃ i kk : Nat, i ≤ p.length ∧ t5 = .int .i64 (i : Int) ∧ (kk ≤ k + pk p i ∧ k + pk p i ≤ kk) ∧ t1 = .int .i64 (kk : Int) ∧ Below w.heap.size w wr) (fun _ t5 _ => p.length - (intOf t5).toNat)
  case atStart => exact ⟨0, k, Nat.zero_le _, rfl, ⟨by simp [pk], by simp [pk]⟩, rfl, Below.refl _ _⟩
  case round =>
    rename World => wo
    obtain ⟨i, kk, hi, rfl, ⟨hka, hkb⟩, rfl, hW⟩ := hrel
    by_cases hlt : i < p.length
    · obtain ⟨pB, rfl, hN⟩ := hA (by omega)
      obtain ⟨f, h1, h2, h3, h4⟩ := hN.stays hW
      have hbi := hb i (by omega)
      have hbs := hb (i + 1) hlt
      have hpk : pk p (i + 1) = pk p i + 2 + (qpAt p i).1.ps.length := rfl
      rw [hpk] at hbs
      change Hid _ at hpk
      obtain ⟨a1, a3, a4⟩ := h4 i hlt
      have i0 : (0 : Int) ≤ (i : Int) := by omega
      have i1 : (i : Int) < (p.length : Int) := by omega
      have m1 : wo.cell? ⟨pB, i * 3, none⟩ = some (.string (mT kk)) := by rw [h1.cell (show i * 3 < p.length * 3 by omega), a1, show k + pk p i = kk by omega]
      have m2 : wo.cell? ⟨pB, i * 3 + 2, none⟩ = some (.int .i64 ((kk + 1 + (qpAt p i).1.ps.length : Nat) : Int)) := by rw [h1.cell (show i * 3 + 2 < p.length * 3 by omega), a3, show k + pk p i = kk by omega]
      obtain ⟨ka, kc, hkv, _⟩ := id a4
      have m3 : wo.cell? ⟨pB, i * 3 + 1, none⟩ = some (.slice ka (qpAt p i).1.ps.length kc) := by rw [h1.cell (show i * 3 + 1 < p.length * 3 by omega), h2 i hlt, hkv]
      have hgo := h1.lt
      rw [hkv, show k + pk p i + 1 = kk + 1 by omega] at a4
      clear hA hN h1 h2 h3 h4 a1 a3
      go_wp2_with fail
      refine region_last (fun x => x.cell? ⟨pB, i * 3, none⟩ = some (.string (mT kk))) (by kernel_rfl) (by kernel_rfl) (by kernel_rfl) m1 (fun hHeld => ?_)
      simp only [List.dropLast, List.length_cons, List.length_nil, Nat.reduceAdd]
      refine takeL (i := 0) (v := ?_) rfl (by kernel_rfl) (by kernel_rfl) (by kernel_rfl) (fun _ _ _ h => h) rfl (by assumption) ?_ ?_
      rotate_left
      · (intro wS hSw; (try dsimp only at hSw); go_simp; try with_reducible rfl)
      (try simp only [Act.put, List.setIfInBounds_toArray, List.set_cons_zero, List.set_cons_succ])
      refine takeL (i := 1) (v := ?_) rfl (by kernel_rfl) (by kernel_rfl) (by kernel_rfl) (fun _ _ _ h => h) rfl (by assumption) ?_ ?_
      rotate_left
      · (intro wS hSw; (try dsimp only at hSw); go_simp; try with_reducible rfl)
      (try simp only [Act.put, List.setIfInBounds_toArray, List.set_cons_zero, List.set_cons_succ])
      refine takeL (i := 2) (v := ?_) rfl (by kernel_rfl) (by kernel_rfl) (by kernel_rfl) (fun _ _ _ h => h) rfl (by assumption) ?_ ?_
      rotate_left
      · (intro wS hSw; (try dsimp only at hSw); go_simp; try with_reducible rfl)
      (try simp only [Act.put, List.setIfInBounds_toArray, List.set_cons_zero, List.set_cons_succ])
      refine takeL (i := 3) (v := ?_) rfl (by kernel_rfl) (by kernel_rfl) (by kernel_rfl) (fun _ _ _ h => h) rfl (by assumption) ?_ ?_
      rotate_left
      · (intro wS hSw; (try dsimp only at hSw); go_simp; try with_reducible rfl)
      (try simp only [Act.put, List.setIfInBounds_toArray, List.set_cons_zero, List.set_cons_succ])
      refine takeL (i := 4) (v := ?_) rfl (by kernel_rfl) (by kernel_rfl) (by kernel_rfl) (fun _ _ _ h => h) rfl (by assumption) ?_ ?_
      rotate_left
      · (intro wS hSw; (try dsimp only at hSw); go_simp; try with_reducible rfl)
      (try simp only [Act.put, List.setIfInBounds_toArray, List.set_cons_zero, List.set_cons_succ])
      refine takeL (i := 5) (v := ?_) rfl (by kernel_rfl) (by kernel_rfl) (by kernel_rfl) (fun _ _ _ h => h) rfl (by assumption) ?_ ?_
      rotate_left
      · (intro wS hSw; (try dsimp only at hSw); go_simp; try with_reducible rfl)
      (try simp only [Act.put, List.setIfInBounds_toArray, List.set_cons_zero, List.set_cons_succ])
      refine stepL (i := 6) rfl (by kernel_rfl) (fun K hK => ?_)
      rw [if_pos (by rfl)]
      go_simp
      refine (markText_any kk _ (by omega) (by omega)).mono ?_
      rintro er w2 ⟨rfl, hb2⟩
      have b2 : Below wo.heap.size wo w2 := (Below.refl _ _).drew.trans hb2
      have y1 : w2.cell? ⟨pB, i * 3, none⟩ = some (.string (mT kk)) := by rw [b2.cell (by exact hgo)]; exact m1
      have y3 : w2.cell? ⟨pB, i * 3 + 1, none⟩ = some (.slice ka (qpAt p i).1.ps.length kc) := by rw [b2.cell (by exact hgo)]; exact m3
      have y2 : w2.cell? ⟨pB, i * 3 + 2, none⟩ = some (.int .i64 ((kk + 1 + (qpAt p i).1.ps.length : Nat) : Int)) := by rw [b2.cell (by exact hgo)]; exact m2
      have a5 := a4.stays b2
      have hg2 : pB < w2.heap.size := Nat.lt_of_lt_of_le hgo b2.size
      refine hK.out _ _ y1 (fun hHeld2 => ?_)
      clear hK K hHeld m1 m2 m3 a4
      (try simp only [Act.put, List.setIfInBounds_toArray, List.set_cons_zero, List.set_cons_succ])
      refine wpAnyH_done (by kernel_rfl) ?_ _
      refine lastL (n := 7) rfl rfl ?_
      go_simp
      clear hHeld2 y1
      go_wp2_with fail
      rw [show (kk : Int) + 1 = ((kk + 1 : Nat) : Int) from by omega]
      refine (heldStringS_any _ _ (kk + 1) _ (by omega) (by omega) (by omega) a5).mono ?_
      rintro er w3 ⟨rfl, hb3⟩
      have hnn : ¬ ((kk + 1 + (qpAt p i).1.ps.length : Nat) : Int) < 0 := by omega
      have z2 : w3.cell? ⟨pB, i * 3 + 2, none⟩ = some (.int .i64 ((kk + 1 + (qpAt p i).1.ps.length : Nat) : Int)) := by rw [hb3.cell (by exact hg2)]; exact y2
      have B3 := hW.trans ((b2.trans (hb3.mono b2.size)).mono hW.size)
      clear y2 y3 a5
      generalize hM : kk + 1 + (qpAt p i).1.ps.length = M at hnn z2 ⊢
      have HM : Hid (kk + 1 + (qpAt p i).1.ps.length = M) := hM
      clear hM
      have hM2 : M ≤ 40000 := by have := HM.out; omega
      go_wp2
      go_roundw
      case rel => exact ⟨i + 1, M + 1, by omega, by go_num, ⟨by rw [hpk.out, ← HM.out]; omega, by rw [hpk.out, ← HM.out]; omega⟩, by go_num, B3⟩
      case measure => simp [intOf]; omega
    · have e : i = p.length := by omega
      have e' : Hid (i = p.length) := e
      go_wp2
      go_ret
      exact ⟨by rw [← e'.out, show k + pk p i = kk from by omega]; rfl, hW⟩

end Go.Proofs.Ytkdlgglikhbnkal
