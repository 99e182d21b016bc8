/- Sets held against the same sets: eqSet answers true. -/
import Derived.Test.YtjikmpdgednlaaaRows
import Derived.Test.YtjikmpdgednlaaaTSetAt
import Derived.Outline
import Derived.Handy
import Derived.Deep.RegionHeld3
import Derived.Deep.DrawnRows
import Derived.Test.YtjikmpdgednlaaaRegLast
import Derived.Lib.QuietBelow
import Derived.BigQuiet
namespace Go.Proofs.Ytjikmpdgednlaaa
open Go.ChangeShapes Go.WideShapes Go.ChangeAt Go.RowKit
set_option linter.unusedVariables false
set_option maxRecDepth 100000
attribute [local go_sem ↓] Go.wp_at_zero Go.wp_at_succ

theorem eqIntS_same (v v' : Value) (l : List Int) (w : World) {lo hi lo' hi' : Nat} (h : IntsAt lo hi w v l) (h' : IntsAt lo' hi' w v' l) :
    Calls Try.prog 74 #[v, v'] w fun e w' => e = .returned (.bool true) ∧ Below w.heap.size w w' := by
  obtain ⟨a, cap, rfl, hm, hc⟩ := h
  obtain ⟨a', cap', rfl, _, hc'⟩ := h'
  unfold maxLen at hm
  go_enter Try.func74, Try.ntmps74
  go_wp2
  go_loopw [5] (fun i wr => ∃ k : Nat, k ≤ l.length ∧ i = .int .i64 k ∧ Below w.heap.size w wr) (fun i _ => l.length - (intOf i).toNat)
  case atStart => exact ⟨0, Nat.zero_le _, rfl, Below.refl _ _⟩
  case round =>
    obtain ⟨k, hk, rfl, hb⟩ := hrel
    by_cases hlt : k < l.length
    · obtain ⟨b, off, rfl, _, _, hcc⟩ := hc (by omega)
      obtain ⟨b', off', rfl, _, _, hcc'⟩ := hc' (by omega)
      have k0 := cell_regrown (cell_stays hb (hcc k hlt))
      have k1 := cell_regrown (cell_stays hb (hcc' k hlt))
      have i0 : (0 : Int) ≤ (k : Int) := by omega
      have i1 : (k : Int) < (l.length : Int) := by omega
      clear hcc hc hcc' hc'
      go_wp2_with fail
      refine wp_region_quiet_below (by kernel_rfl) (by kernel_rfl) ?_
      repeat (go_big_quiet_step (fail))
      refine wpQuiet_nil ?_
      intro w4 hw4
      obtain ⟨⟨dq, osq⟩, hw5⟩ := hw4
      have hb4 : Below _ _ w4 := hw5 ▸ below_regrown _ dq osq
      clear hw5 k0 k1
      go_wp2
      go_roundw
      case rel => exact ⟨k + 1, by omega, by go_num, hb.trans (hb4.mono hb.size)⟩
      case measure => simp [intOf]; omega
    · go_wp2
      go_ret
      exact ⟨rfl, hb⟩

theorem eqStringS_same (v v' : Value) (l : List ByteArray) (w : World) {lo hi lo' hi' : Nat} (h : TextsAt lo hi w v l) (h' : TextsAt lo' hi' w v' l) :
    Calls Try.prog 75 #[v, v'] w fun e w' => e = .returned (.bool true) ∧ Below w.heap.size w w' := by
  obtain ⟨a, cap, rfl, hm, hc⟩ := h
  obtain ⟨a', cap', rfl, _, hc'⟩ := h'
  unfold maxLen at hm
  go_enter Try.func75, Try.ntmps75
  go_wp2
  go_loopw [5] (fun i wr => ∃ k : Nat, k ≤ l.length ∧ i = .int .i64 k ∧ Below w.heap.size w wr) (fun i _ => l.length - (intOf i).toNat)
  case atStart => exact ⟨0, Nat.zero_le _, rfl, Below.refl _ _⟩
  case round =>
    obtain ⟨k, hk, rfl, hb⟩ := hrel
    by_cases hlt : k < l.length
    · obtain ⟨b, off, rfl, _, _, hcc⟩ := hc (by omega)
      obtain ⟨b', off', rfl, _, _, hcc'⟩ := hc' (by omega)
      have k0 := cell_regrown (cell_stays hb (hcc k hlt))
      have k1 := cell_regrown (cell_stays hb (hcc' k hlt))
      have i0 : (0 : Int) ≤ (k : Int) := by omega
      have i1 : (k : Int) < (l.length : Int) := by omega
      clear hcc hc hcc' hc'
      go_wp2_with fail
      refine wp_region_quiet_below (by kernel_rfl) (by kernel_rfl) ?_
      repeat (go_big_quiet_step (fail))
      refine wpQuiet_nil ?_
      intro w4 hw4
      obtain ⟨⟨dq, osq⟩, hw5⟩ := hw4
      have hb4 : Below _ _ w4 := hw5 ▸ below_regrown _ dq osq
      clear hw5 k0 k1
      go_wp2
      go_roundw
      case rel => exact ⟨k + 1, by omega, by go_num, hb.trans (hb4.mono hb.size)⟩
      case measure => simp [intOf]; omega
    · go_wp2
      go_ret
      exact ⟨rfl, hb⟩

theorem eqNode_same (k : Int) (s : ByteArray) (n : Int) (v v' : Value) (l : List Int) (w : World) {lo hi lo' hi' : Nat} (h : IntsAt lo hi w v l) (h' : IntsAt lo' hi' w v' l) :
    Calls Try.prog 48 #[.agg #[.int .i64 k, .string s, .int .i64 n, v], .agg #[.int .i64 k, .string s, .int .i64 n, v']] w fun e w' => e = .returned (.bool true) ∧ Below w.heap.size w w' := by
  obtain ⟨a, cap, hv⟩ : ∃ a cap, v = .slice a l.length cap := by obtain ⟨a, cap, h1, _⟩ := h; exact ⟨a, cap, h1⟩
  obtain ⟨a', cap', hv'⟩ : ∃ a cap, v' = .slice a l.length cap := by obtain ⟨a, cap, h1, _⟩ := h'; exact ⟨a, cap, h1⟩
  subst hv hv'
  have hbx : Below w.heap.size w ((w.alloc (Obj.cells #[.int .i64 k, .string s, .int .i64 n, Value.slice a l.length cap] 72)).alloc (Obj.cells #[.int .i64 k, .string s, .int .i64 n, Value.slice a' l.length cap'] 72)) := ((Below.refl _ _).alloc (Nat.le_refl _) _).alloc (by simp) _
  go_enter Try.func48, Try.ntmps48
  go_wp2_with fail
  refine (eqIntS_same _ _ l _ (h.stays hbx) (h'.stays hbx)).mono ?_
  rintro e w2 ⟨rfl, hb3⟩
  go_wp2
  go_ret
  exact ⟨rfl, hbx.trans (hb3.mono hbx.size)⟩

theorem eqProc_same (nm : ByteArray) (n : Int) (v v' : Value) (l : List ByteArray) (w : World) {lo hi lo' hi' : Nat} (h : TextsAt lo hi w v l) (h' : TextsAt lo' hi' w v' l) :
    Calls Try.prog 49 #[.agg #[.string nm, v, .int .i64 n], .agg #[.string nm, v', .int .i64 n]] w fun e w' => e = .returned (.bool true) ∧ Below w.heap.size w w' := by
  obtain ⟨a, cap, hv⟩ : ∃ a cap, v = .slice a l.length cap := by obtain ⟨a, cap, h1, _⟩ := h; exact ⟨a, cap, h1⟩
  obtain ⟨a', cap', hv'⟩ : ∃ a cap, v' = .slice a l.length cap := by obtain ⟨a, cap, h1, _⟩ := h'; exact ⟨a, cap, h1⟩
  subst hv hv'
  have hbx : Below w.heap.size w ((w.alloc (Obj.cells #[.string nm, Value.slice a l.length cap, .int .i64 n] 73)).alloc (Obj.cells #[.string nm, Value.slice a' l.length cap', .int .i64 n] 73)) := ((Below.refl _ _).alloc (Nat.le_refl _) _).alloc (by simp) _
  go_enter Try.func49, Try.ntmps49
  go_wp2_with fail
  refine (eqStringS_same _ _ l _ (h.stays hbx) (h'.stays hbx)).mono ?_
  rintro e w2 ⟨rfl, hb3⟩
  have p1 : w2.cell? ⟨w.heap.size, 2, none⟩ = some (.int .i64 n) := cell_stays hb3 (by simp [go_sem])
  have p2 : w2.cell? ⟨w.heap.size + 1, 2, none⟩ = some (.int .i64 n) := cell_stays hb3 (by simp [go_sem])
  go_wp2
  go_ret
  exact ⟨rfl, hbx.trans (hb3.mono hbx.size)⟩

set_option maxHeartbeats 2000000 in
theorem eqNodeS_same (v v' : Value) (l : List Nd) (w : World) {lo hi lo' hi' : Nat} (h : NodesAt lo hi w v l) (h' : NodesAt lo' hi' w v' l) :
    Calls Try.prog 27 #[v, v'] w fun e w' => e = .returned (.bool true) ∧ Below w.heap.size w w' := by
  obtain ⟨a, cap, rfl, hm, hc⟩ := h
  obtain ⟨a', cap', rfl, _, hc'⟩ := h'
  unfold maxLen at hm
  go_enter Try.func27, Try.ntmps27
  go_wp2
  go_loopw [5] (fun i wr => ∃ k : Nat, k ≤ l.length ∧ i = .int .i64 k ∧ Below w.heap.size w wr) (fun i _ => l.length - (intOf i).toNat)
  case atStart => exact ⟨0, Nat.zero_le _, rfl, Below.refl _ _⟩
  case round =>
    rename World => wo
    obtain ⟨k, hk, rfl, hb⟩ := hrel
    by_cases hlt : k < l.length
    · obtain ⟨b, off, rfl, _, _, hcc⟩ := hc (by omega)
      obtain ⟨b', off', rfl, _, _, hcc'⟩ := hc' (by omega)
      obtain ⟨c0, c1, c2, ca, cb, c3, c4⟩ := hcc k hlt
      obtain ⟨d0, d1, d2, da, db, d3, d4⟩ := hcc' k hlt
      have S0 : ∀ x, Below wo.heap.size wo x → x.cell? ⟨b, off + k * 4, none⟩ = some (.int .i64 (ndAt l k).k) ∧ x.cell? ⟨b, off + k * 4 + 1, none⟩ = some (.string (ndAt l k).s) ∧ x.cell? ⟨b, off + k * 4 + 1 + 1, none⟩ = some (.int .i64 (ndAt l k).n) ∧ x.cell? ⟨b, off + k * 4 + 1 + 1 + 1, none⟩ = some (.slice ca (ndAt l k).kids.length cb) ∧ x.cell? ⟨b', off' + k * 4, none⟩ = some (.int .i64 (ndAt l k).k) ∧ x.cell? ⟨b', off' + k * 4 + 1, none⟩ = some (.string (ndAt l k).s) ∧ x.cell? ⟨b', off' + k * 4 + 1 + 1, none⟩ = some (.int .i64 (ndAt l k).n) ∧ x.cell? ⟨b', off' + k * 4 + 1 + 1 + 1, none⟩ = some (.slice da (ndAt l k).kids.length db) := fun x hx =>
        ⟨cell_stays hx (cell_stays hb c0), cell_stays hx (cell_stays hb c1), cell_stays hx (cell_stays hb c2), cell_stays hx (cell_stays hb c3), cell_stays hx (cell_stays hb d0), cell_stays hx (cell_stays hb d1), cell_stays hx (cell_stays hb d2), cell_stays hx (cell_stays hb d3)⟩
      replace c4 := c4.stays hb
      replace d4 := d4.stays hb
      have i0 : (0 : Int) ≤ (k : Int) := by omega
      have i1 : (k : Int) < (l.length : Int) := by omega
      clear hcc hc hcc' hc' c0 c1 c2 c3 d0 d1 d2 d3
      go_wp2_with fail
      refine region_last (fun x => x.cell? ⟨b, off + k * 4, none⟩ = some (.int .i64 (ndAt l k).k) ∧ x.cell? ⟨b, off + k * 4 + 1, none⟩ = some (.string (ndAt l k).s) ∧ x.cell? ⟨b, off + k * 4 + 1 + 1, none⟩ = some (.int .i64 (ndAt l k).n) ∧ x.cell? ⟨b, off + k * 4 + 1 + 1 + 1, none⟩ = some (.slice ca (ndAt l k).kids.length cb) ∧ x.cell? ⟨b', off' + k * 4, none⟩ = some (.int .i64 (ndAt l k).k) ∧ x.cell? ⟨b', off' + k * 4 + 1, none⟩ = some (.string (ndAt l k).s) ∧ x.cell? ⟨b', off' + k * 4 + 1 + 1, none⟩ = some (.int .i64 (ndAt l k).n) ∧ x.cell? ⟨b', off' + k * 4 + 1 + 1 + 1, none⟩ = some (.slice da (ndAt l k).kids.length db)) (by kernel_rfl) (by kernel_rfl) (by kernel_rfl) (S0 _ (Below.refl _ _).drew) (fun hHeld => ?_)
      simp only [List.dropLast, List.length_cons, List.length_nil, Nat.reduceAdd]
      refine takeL (i := 0) (v := ?_) rfl (by kernel_rfl) (by kernel_rfl) (by kernel_rfl) (fun _ _ _ h => h) rfl (by assumption) ?_ ?_
      rotate_left
      · (intro wS hSw; (try dsimp only at hSw); go_simp; try with_reducible rfl)
      (try simp only [Act.put, List.setIfInBounds_toArray, List.set_cons_zero, List.set_cons_succ])
      refine takeL (i := 1) (v := ?_) rfl (by kernel_rfl) (by kernel_rfl) (by kernel_rfl) (fun _ _ _ h => h) rfl (by assumption) ?_ ?_
      rotate_left
      · (intro wS hSw; (try dsimp only at hSw); go_simp; try with_reducible rfl)
      (try simp only [Act.put, List.setIfInBounds_toArray, List.set_cons_zero, List.set_cons_succ])
      refine takeL (i := 2) (v := ?_) rfl (by kernel_rfl) (by kernel_rfl) (by kernel_rfl) (fun _ _ _ h => h) rfl (by assumption) ?_ ?_
      rotate_left
      · (intro wS hSw; (try dsimp only at hSw); go_simp; try with_reducible rfl)
      (try simp only [Act.put, List.setIfInBounds_toArray, List.set_cons_zero, List.set_cons_succ])
      refine takeL (i := 3) (v := ?_) rfl (by kernel_rfl) (by kernel_rfl) (by kernel_rfl) (fun _ _ _ h => h) rfl (by assumption) ?_ ?_
      rotate_left
      · (intro wS hSw; (try dsimp only at hSw); go_simp; try with_reducible rfl)
      (try simp only [Act.put, List.setIfInBounds_toArray, List.set_cons_zero, List.set_cons_succ])
      refine takeL (i := 4) (v := ?_) rfl (by kernel_rfl) (by kernel_rfl) (by kernel_rfl) (fun _ _ _ h => h) rfl (by assumption) ?_ ?_
      rotate_left
      · (intro wS hSw; (try dsimp only at hSw); go_simp; try with_reducible rfl)
      (try simp only [Act.put, List.setIfInBounds_toArray, List.set_cons_zero, List.set_cons_succ])
      refine takeL (i := 5) (v := ?_) rfl (by kernel_rfl) (by kernel_rfl) (by kernel_rfl) (fun _ _ _ h => h) rfl (by assumption) ?_ ?_
      rotate_left
      · (intro wS hSw; (try dsimp only at hSw); go_simp; try with_reducible rfl)
      (try simp only [Act.put, List.setIfInBounds_toArray, List.set_cons_zero, List.set_cons_succ])
      refine takeL (i := 6) (v := ?_) rfl (by kernel_rfl) (by kernel_rfl) (by kernel_rfl) (fun _ _ _ h => h) rfl (by assumption) ?_ ?_
      rotate_left
      · (intro wS hSw; (try dsimp only at hSw); go_simp; try with_reducible rfl)
      (try simp only [Act.put, List.setIfInBounds_toArray, List.set_cons_zero, List.set_cons_succ])
      refine takeL (i := 7) (v := ?_) rfl (by kernel_rfl) (by kernel_rfl) (by kernel_rfl) (fun _ _ _ h => h) rfl (by assumption) ?_ ?_
      rotate_left
      · (intro wS hSw; (try dsimp only at hSw); go_simp; try with_reducible rfl)
      (try simp only [Act.put, List.setIfInBounds_toArray, List.set_cons_zero, List.set_cons_succ])
      refine stepL (i := 8) rfl (by kernel_rfl) (fun K hK => ?_)
      rw [if_pos (by rfl)]
      go_simp
      refine (eqNode_same _ _ _ _ _ (ndAt l k).kids _ (c4.stays (Below.refl _ _).drew) (d4.stays (Below.refl _ _).drew)).mono ?_
      rintro er w2 ⟨rfl, hb2⟩
      have b2 : Below wo.heap.size wo w2 := (Below.refl _ _).drew.trans hb2
      refine hK.out _ _ (S0 _ b2) (fun hHeld2 => ?_)
      clear hK K hHeld
      (try simp only [Act.put, List.setIfInBounds_toArray, List.set_cons_zero, List.set_cons_succ])
      refine wpAnyH_done (by kernel_rfl) ?_ _
      refine lastL (n := 9) rfl rfl ?_
      go_simp
      clear hHeld2 S0
      go_wp2
      go_roundw
      case rel => exact ⟨k + 1, by omega, by go_num, hb.trans (b2.mono hb.size)⟩
      case measure => simp [intOf]; omega
    · go_wp2
      go_ret
      exact ⟨rfl, hb⟩

set_option maxHeartbeats 2000000 in
theorem eqProcS_same (v v' : Value) (l : List Pr) (w : World) {lo hi lo' hi' : Nat} (h : ProcsAt lo hi w v l) (h' : ProcsAt lo' hi' w v' l) :
    Calls Try.prog 28 #[v, v'] w fun e w' => e = .returned (.bool true) ∧ Below w.heap.size w w' := by
  obtain ⟨a, cap, rfl, hm, hc⟩ := h
  obtain ⟨a', cap', rfl, _, hc'⟩ := h'
  unfold maxLen at hm
  go_enter Try.func28, Try.ntmps28
  go_wp2
  go_loopw [5] (fun i wr => ∃ k : Nat, k ≤ l.length ∧ i = .int .i64 k ∧ Below w.heap.size w wr) (fun i _ => l.length - (intOf i).toNat)
  case atStart => exact ⟨0, Nat.zero_le _, rfl, Below.refl _ _⟩
  case round =>
    rename World => wo
    obtain ⟨k, hk, rfl, hb⟩ := hrel
    by_cases hlt : k < l.length
    · obtain ⟨b, off, rfl, _, _, hcc⟩ := hc (by omega)
      obtain ⟨b', off', rfl, _, _, hcc'⟩ := hc' (by omega)
      obtain ⟨c0, ⟨ca, cb, c1, c4⟩, c2⟩ := hcc k hlt
      obtain ⟨d0, ⟨da, db, d1, d4⟩, d2⟩ := hcc' k hlt
      have S0 : ∀ x, Below wo.heap.size wo x → x.cell? ⟨b, off + k * 3, none⟩ = some (.string (prAt l k).name) ∧ x.cell? ⟨b, off + k * 3 + 1, none⟩ = some (.slice ca (prAt l k).ps.length cb) ∧ x.cell? ⟨b, off + k * 3 + 1 + 1, none⟩ = some (.int .i64 (prAt l k).body) ∧ x.cell? ⟨b', off' + k * 3, none⟩ = some (.string (prAt l k).name) ∧ x.cell? ⟨b', off' + k * 3 + 1, none⟩ = some (.slice da (prAt l k).ps.length db) ∧ x.cell? ⟨b', off' + k * 3 + 1 + 1, none⟩ = some (.int .i64 (prAt l k).body) := fun x hx =>
        ⟨cell_stays hx (cell_stays hb c0), cell_stays hx (cell_stays hb c1), cell_stays hx (cell_stays hb c2), cell_stays hx (cell_stays hb d0), cell_stays hx (cell_stays hb d1), cell_stays hx (cell_stays hb d2)⟩
      replace c4 := c4.stays hb
      replace d4 := d4.stays hb
      have i0 : (0 : Int) ≤ (k : Int) := by omega
      have i1 : (k : Int) < (l.length : Int) := by omega
      clear hcc hc hcc' hc' c0 c1 c2 d0 d1 d2
      go_wp2_with fail
      refine region_last (fun x => x.cell? ⟨b, off + k * 3, none⟩ = some (.string (prAt l k).name) ∧ x.cell? ⟨b, off + k * 3 + 1, none⟩ = some (.slice ca (prAt l k).ps.length cb) ∧ x.cell? ⟨b, off + k * 3 + 1 + 1, none⟩ = some (.int .i64 (prAt l k).body) ∧ x.cell? ⟨b', off' + k * 3, none⟩ = some (.string (prAt l k).name) ∧ x.cell? ⟨b', off' + k * 3 + 1, none⟩ = some (.slice da (prAt l k).ps.length db) ∧ x.cell? ⟨b', off' + k * 3 + 1 + 1, none⟩ = some (.int .i64 (prAt l k).body)) (by kernel_rfl) (by kernel_rfl) (by kernel_rfl) (S0 _ (Below.refl _ _).drew) (fun hHeld => ?_)
      simp only [List.dropLast, List.length_cons, List.length_nil, Nat.reduceAdd]
      refine takeL (i := 0) (v := ?_) rfl (by kernel_rfl) (by kernel_rfl) (by kernel_rfl) (fun _ _ _ h => h) rfl (by assumption) ?_ ?_
      rotate_left
      · (intro wS hSw; (try dsimp only at hSw); go_simp; try with_reducible rfl)
      (try simp only [Act.put, List.setIfInBounds_toArray, List.set_cons_zero, List.set_cons_succ])
      refine takeL (i := 1) (v := ?_) rfl (by kernel_rfl) (by kernel_rfl) (by kernel_rfl) (fun _ _ _ h => h) rfl (by assumption) ?_ ?_
      rotate_left
      · (intro wS hSw; (try dsimp only at hSw); go_simp; try with_reducible rfl)
      (try simp only [Act.put, List.setIfInBounds_toArray, List.set_cons_zero, List.set_cons_succ])
      refine takeL (i := 2) (v := ?_) rfl (by kernel_rfl) (by kernel_rfl) (by kernel_rfl) (fun _ _ _ h => h) rfl (by assumption) ?_ ?_
      rotate_left
      · (intro wS hSw; (try dsimp only at hSw); go_simp; try with_reducible rfl)
      (try simp only [Act.put, List.setIfInBounds_toArray, List.set_cons_zero, List.set_cons_succ])
      refine takeL (i := 3) (v := ?_) rfl (by kernel_rfl) (by kernel_rfl) (by kernel_rfl) (fun _ _ _ h => h) rfl (by assumption) ?_ ?_
      rotate_left
      · (intro wS hSw; (try dsimp only at hSw); go_simp; try with_reducible rfl)
      (try simp only [Act.put, List.setIfInBounds_toArray, List.set_cons_zero, List.set_cons_succ])
      refine takeL (i := 4) (v := ?_) rfl (by kernel_rfl) (by kernel_rfl) (by kernel_rfl) (fun _ _ _ h => h) rfl (by assumption) ?_ ?_
      rotate_left
      · (intro wS hSw; (try dsimp only at hSw); go_simp; try with_reducible rfl)
      (try simp only [Act.put, List.setIfInBounds_toArray, List.set_cons_zero, List.set_cons_succ])
      refine takeL (i := 5) (v := ?_) rfl (by kernel_rfl) (by kernel_rfl) (by kernel_rfl) (fun _ _ _ h => h) rfl (by assumption) ?_ ?_
      rotate_left
      · (intro wS hSw; (try dsimp only at hSw); go_simp; try with_reducible rfl)
      (try simp only [Act.put, List.setIfInBounds_toArray, List.set_cons_zero, List.set_cons_succ])
      refine takeL (i := 6) (v := ?_) rfl (by kernel_rfl) (by kernel_rfl) (by kernel_rfl) (fun _ _ _ h => h) rfl (by assumption) ?_ ?_
      rotate_left
      · (intro wS hSw; (try dsimp only at hSw); go_simp; try with_reducible rfl)
      (try simp only [Act.put, List.setIfInBounds_toArray, List.set_cons_zero, List.set_cons_succ])
      refine takeL (i := 7) (v := ?_) rfl (by kernel_rfl) (by kernel_rfl) (by kernel_rfl) (fun _ _ _ h => h) rfl (by assumption) ?_ ?_
      rotate_left
      · (intro wS hSw; (try dsimp only at hSw); go_simp; try with_reducible rfl)
      (try simp only [Act.put, List.setIfInBounds_toArray, List.set_cons_zero, List.set_cons_succ])
      refine stepL (i := 8) rfl (by kernel_rfl) (fun K hK => ?_)
      rw [if_pos (by rfl)]
      go_simp
      refine (eqProc_same _ _ _ _ (prAt l k).ps _ (c4.stays (Below.refl _ _).drew) (d4.stays (Below.refl _ _).drew)).mono ?_
      rintro er w2 ⟨rfl, hb2⟩
      have b2 : Below wo.heap.size wo w2 := (Below.refl _ _).drew.trans hb2
      refine hK.out _ _ (S0 _ b2) (fun hHeld2 => ?_)
      clear hK K hHeld
      (try simp only [Act.put, List.setIfInBounds_toArray, List.set_cons_zero, List.set_cons_succ])
      refine wpAnyH_done (by kernel_rfl) ?_ _
      refine lastL (n := 9) rfl rfl ?_
      go_simp
      clear hHeld2 S0
      go_wp2
      go_roundw
      case rel => exact ⟨k + 1, by omega, by go_num, hb.trans (b2.mono hb.size)⟩
      case measure => simp [intOf]; omega
    · go_wp2
      go_ret
      exact ⟨rfl, hb⟩

theorem eqSet_same (v u v' u' : Value) (l : List Nd) (p : List Pr) (w : World) {lo hi lo' hi' : Nat} (h : SetAt lo hi w v u l p) (h' : SetAt lo' hi' w v' u' l p) :
    Calls Try.prog 10 #[.agg #[v, u], .agg #[v', u']] w fun e w' => e = .returned (.bool true) ∧ Below w.heap.size w w' := by
  obtain ⟨a, c, b, d, rfl, rfl⟩ := h.forms
  obtain ⟨a', c', b', d', rfl, rfl⟩ := h'.forms
  have hbx : Below w.heap.size w ((w.alloc (Obj.cells #[Value.slice a l.length c, Value.slice b p.length d] 36)).alloc (Obj.cells #[Value.slice a' l.length c', Value.slice b' p.length d'] 36)) := ((Below.refl _ _).alloc (Nat.le_refl _) _).alloc (by simp) _
  go_enter Try.func10, Try.ntmps10
  go_wp2_with fail
  refine (eqNodeS_same _ _ l _ (h.1.stays hbx) (h'.1.stays hbx)).mono ?_
  rintro e w2 ⟨rfl, hb2⟩
  have p1 : w2.cell? ⟨w.heap.size, 1, none⟩ = some (.slice b p.length d) := cell_stays hb2 (by simp [go_sem])
  have p2 : w2.cell? ⟨w.heap.size + 1, 1, none⟩ = some (.slice b' p.length d') := cell_stays hb2 (by simp [go_sem])
  have hb3 := hbx.trans (hb2.mono hbx.size)
  go_wp2_with fail
  refine (eqProcS_same _ _ p _ (h.2.stays hb3) (h'.2.stays hb3)).mono ?_
  rintro e w4 ⟨rfl, hb4⟩
  go_wp2
  go_ret
  exact ⟨rfl, hb3.trans (hb4.mono hb3.size)⟩

end Go.Proofs.Ytjikmpdgednlaaa
