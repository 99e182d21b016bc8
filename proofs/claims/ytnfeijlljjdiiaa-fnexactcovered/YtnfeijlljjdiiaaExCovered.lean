/- For every two accesses, the exact law of Covered returns true, and both read afterwards as they read before. -/
import Derived.Test.YtnfeijlljjdiiaaA2
import Derived.Test.YtnfeijlljjdiiaaRegLast
import Derived.ChangeOld
namespace Go.Proofs.Ytnfeijlljjdiiaa
open Go.ChangeShapes Go.WideShapes Go.ChangeAt Go.RowKit
set_option linter.unusedVariables false
set_option maxRecDepth 100000
attribute [local go_sem ↓] Go.wp_at_zero Go.wp_at_succ

set_option maxHeartbeats 4000000 in
theorem exactCovered_any (X0 : Ac) (vA0 : Value) (X1 : Ac) (vA1 : Value) (w : World) {lo0 hi0 : Nat} {lo1 hi1 : Nat} (hA0 : IntsAt lo0 hi0 w vA0 X0.rows) (hA1 : IntsAt lo1 hi1 w vA1 X1.rows) :
    Calls Try.prog 4 #[.agg #[.int .i64 X0.n, .bool X0.w, .int .i64 X0.t, .bool X0.c, .int .i64 X0.r, .bool X0.s, vA0], .agg #[.int .i64 X1.n, .bool X1.w, .int .i64 X1.t, .bool X1.c, .int .i64 X1.r, .bool X1.s, vA1]] w fun e w' => e = .returned (.bool true) ∧ Below w.heap.size w w' := by
  obtain ⟨a0, c0, hv0⟩ : ∃ a cap, vA0 = .slice a X0.rows.length cap := by obtain ⟨a, cap, h1, _⟩ := hA0; exact ⟨a, cap, h1⟩
  subst hv0
  obtain ⟨a1, c1, hv1⟩ : ∃ a cap, vA1 = .slice a X1.rows.length cap := by obtain ⟨a, cap, h1, _⟩ := hA1; exact ⟨a, cap, h1⟩
  subst hv1
  have b0 : Below w.heap.size w ((w.alloc (Obj.cells #[.int .i64 X0.n, .bool X0.w, .int .i64 X0.t, .bool X0.c, .int .i64 X0.r, .bool X0.s, Value.slice a0 X0.rows.length c0] 24)).alloc (Obj.cells #[.int .i64 X1.n, .bool X1.w, .int .i64 X1.t, .bool X1.c, .int .i64 X1.r, .bool X1.s, Value.slice a1 X1.rows.length c1] 24)) := ((Below.refl _ _).alloc (Nat.le_refl _) _).alloc (by simp) _
  have x1 : ((w.alloc (Obj.cells #[.int .i64 X0.n, .bool X0.w, .int .i64 X0.t, .bool X0.c, .int .i64 X0.r, .bool X0.s, Value.slice a0 X0.rows.length c0] 24)).alloc (Obj.cells #[.int .i64 X1.n, .bool X1.w, .int .i64 X1.t, .bool X1.c, .int .i64 X1.r, .bool X1.s, Value.slice a1 X1.rows.length c1] 24)).cell? ⟨w.heap.size, 0, none⟩ = some (.int .i64 X0.n) := by simp [go_sem]
  have x2 : ((w.alloc (Obj.cells #[.int .i64 X0.n, .bool X0.w, .int .i64 X0.t, .bool X0.c, .int .i64 X0.r, .bool X0.s, Value.slice a0 X0.rows.length c0] 24)).alloc (Obj.cells #[.int .i64 X1.n, .bool X1.w, .int .i64 X1.t, .bool X1.c, .int .i64 X1.r, .bool X1.s, Value.slice a1 X1.rows.length c1] 24)).cell? ⟨w.heap.size, 1, none⟩ = some (.bool X0.w) := by simp [go_sem]
  have x3 : ((w.alloc (Obj.cells #[.int .i64 X0.n, .bool X0.w, .int .i64 X0.t, .bool X0.c, .int .i64 X0.r, .bool X0.s, Value.slice a0 X0.rows.length c0] 24)).alloc (Obj.cells #[.int .i64 X1.n, .bool X1.w, .int .i64 X1.t, .bool X1.c, .int .i64 X1.r, .bool X1.s, Value.slice a1 X1.rows.length c1] 24)).cell? ⟨w.heap.size, 2, none⟩ = some (.int .i64 X0.t) := by simp [go_sem]
  have x4 : ((w.alloc (Obj.cells #[.int .i64 X0.n, .bool X0.w, .int .i64 X0.t, .bool X0.c, .int .i64 X0.r, .bool X0.s, Value.slice a0 X0.rows.length c0] 24)).alloc (Obj.cells #[.int .i64 X1.n, .bool X1.w, .int .i64 X1.t, .bool X1.c, .int .i64 X1.r, .bool X1.s, Value.slice a1 X1.rows.length c1] 24)).cell? ⟨w.heap.size, 3, none⟩ = some (.bool X0.c) := by simp [go_sem]
  have x5 : ((w.alloc (Obj.cells #[.int .i64 X0.n, .bool X0.w, .int .i64 X0.t, .bool X0.c, .int .i64 X0.r, .bool X0.s, Value.slice a0 X0.rows.length c0] 24)).alloc (Obj.cells #[.int .i64 X1.n, .bool X1.w, .int .i64 X1.t, .bool X1.c, .int .i64 X1.r, .bool X1.s, Value.slice a1 X1.rows.length c1] 24)).cell? ⟨w.heap.size, 4, none⟩ = some (.int .i64 X0.r) := by simp [go_sem]
  have x6 : ((w.alloc (Obj.cells #[.int .i64 X0.n, .bool X0.w, .int .i64 X0.t, .bool X0.c, .int .i64 X0.r, .bool X0.s, Value.slice a0 X0.rows.length c0] 24)).alloc (Obj.cells #[.int .i64 X1.n, .bool X1.w, .int .i64 X1.t, .bool X1.c, .int .i64 X1.r, .bool X1.s, Value.slice a1 X1.rows.length c1] 24)).cell? ⟨w.heap.size, 5, none⟩ = some (.bool X0.s) := by simp [go_sem]
  have x7 : ((w.alloc (Obj.cells #[.int .i64 X0.n, .bool X0.w, .int .i64 X0.t, .bool X0.c, .int .i64 X0.r, .bool X0.s, Value.slice a0 X0.rows.length c0] 24)).alloc (Obj.cells #[.int .i64 X1.n, .bool X1.w, .int .i64 X1.t, .bool X1.c, .int .i64 X1.r, .bool X1.s, Value.slice a1 X1.rows.length c1] 24)).cell? ⟨w.heap.size, 6, none⟩ = some (.slice a0 X0.rows.length c0) := by simp [go_sem]
  have x8 : ((w.alloc (Obj.cells #[.int .i64 X0.n, .bool X0.w, .int .i64 X0.t, .bool X0.c, .int .i64 X0.r, .bool X0.s, Value.slice a0 X0.rows.length c0] 24)).alloc (Obj.cells #[.int .i64 X1.n, .bool X1.w, .int .i64 X1.t, .bool X1.c, .int .i64 X1.r, .bool X1.s, Value.slice a1 X1.rows.length c1] 24)).cell? ⟨w.heap.size + 1, 0, none⟩ = some (.int .i64 X1.n) := by simp [go_sem]
  have x9 : ((w.alloc (Obj.cells #[.int .i64 X0.n, .bool X0.w, .int .i64 X0.t, .bool X0.c, .int .i64 X0.r, .bool X0.s, Value.slice a0 X0.rows.length c0] 24)).alloc (Obj.cells #[.int .i64 X1.n, .bool X1.w, .int .i64 X1.t, .bool X1.c, .int .i64 X1.r, .bool X1.s, Value.slice a1 X1.rows.length c1] 24)).cell? ⟨w.heap.size + 1, 1, none⟩ = some (.bool X1.w) := by simp [go_sem]
  have x10 : ((w.alloc (Obj.cells #[.int .i64 X0.n, .bool X0.w, .int .i64 X0.t, .bool X0.c, .int .i64 X0.r, .bool X0.s, Value.slice a0 X0.rows.length c0] 24)).alloc (Obj.cells #[.int .i64 X1.n, .bool X1.w, .int .i64 X1.t, .bool X1.c, .int .i64 X1.r, .bool X1.s, Value.slice a1 X1.rows.length c1] 24)).cell? ⟨w.heap.size + 1, 2, none⟩ = some (.int .i64 X1.t) := by simp [go_sem]
  have x11 : ((w.alloc (Obj.cells #[.int .i64 X0.n, .bool X0.w, .int .i64 X0.t, .bool X0.c, .int .i64 X0.r, .bool X0.s, Value.slice a0 X0.rows.length c0] 24)).alloc (Obj.cells #[.int .i64 X1.n, .bool X1.w, .int .i64 X1.t, .bool X1.c, .int .i64 X1.r, .bool X1.s, Value.slice a1 X1.rows.length c1] 24)).cell? ⟨w.heap.size + 1, 3, none⟩ = some (.bool X1.c) := by simp [go_sem]
  have x12 : ((w.alloc (Obj.cells #[.int .i64 X0.n, .bool X0.w, .int .i64 X0.t, .bool X0.c, .int .i64 X0.r, .bool X0.s, Value.slice a0 X0.rows.length c0] 24)).alloc (Obj.cells #[.int .i64 X1.n, .bool X1.w, .int .i64 X1.t, .bool X1.c, .int .i64 X1.r, .bool X1.s, Value.slice a1 X1.rows.length c1] 24)).cell? ⟨w.heap.size + 1, 4, none⟩ = some (.int .i64 X1.r) := by simp [go_sem]
  have x13 : ((w.alloc (Obj.cells #[.int .i64 X0.n, .bool X0.w, .int .i64 X0.t, .bool X0.c, .int .i64 X0.r, .bool X0.s, Value.slice a0 X0.rows.length c0] 24)).alloc (Obj.cells #[.int .i64 X1.n, .bool X1.w, .int .i64 X1.t, .bool X1.c, .int .i64 X1.r, .bool X1.s, Value.slice a1 X1.rows.length c1] 24)).cell? ⟨w.heap.size + 1, 5, none⟩ = some (.bool X1.s) := by simp [go_sem]
  have x14 : ((w.alloc (Obj.cells #[.int .i64 X0.n, .bool X0.w, .int .i64 X0.t, .bool X0.c, .int .i64 X0.r, .bool X0.s, Value.slice a0 X0.rows.length c0] 24)).alloc (Obj.cells #[.int .i64 X1.n, .bool X1.w, .int .i64 X1.t, .bool X1.c, .int .i64 X1.r, .bool X1.s, Value.slice a1 X1.rows.length c1] 24)).cell? ⟨w.heap.size + 1, 6, none⟩ = some (.slice a1 X1.rows.length c1) := by simp [go_sem]
  go_enter Try.func4, Try.ntmps4
  go_wp2_with fail
  generalize ((w.alloc (Obj.cells #[.int .i64 X0.n, .bool X0.w, .int .i64 X0.t, .bool X0.c, .int .i64 X0.r, .bool X0.s, Value.slice a0 X0.rows.length c0] 24)).alloc (Obj.cells #[.int .i64 X1.n, .bool X1.w, .int .i64 X1.t, .bool X1.c, .int .i64 X1.r, .bool X1.s, Value.slice a1 X1.rows.length c1] 24)) = W0 at *
  refine (szAccess_any X0 _ _ (hA0.stays b0) _ (by omega) (by omega)).mono ?_
  rintro e wz0 ⟨qz0, rfl, hqz0, hrz0, hbz0⟩
  have b15 := b0.trans (hbz0.mono b0.size)
  have x16 := cell_stays hbz0 x1
  have x17 := cell_stays hbz0 x2
  have x18 := cell_stays hbz0 x3
  have x19 := cell_stays hbz0 x4
  have x20 := cell_stays hbz0 x5
  have x21 := cell_stays hbz0 x6
  have x22 := cell_stays hbz0 x7
  have x23 := cell_stays hbz0 x8
  have x24 := cell_stays hbz0 x9
  have x25 := cell_stays hbz0 x10
  have x26 := cell_stays hbz0 x11
  have x27 := cell_stays hbz0 x12
  have x28 := cell_stays hbz0 x13
  have x29 := cell_stays hbz0 x14
  clear b0 x1 x2 x3 x4 x5 x6 x7 x8 x9 x10 x11 x12 x13 x14 hbz0
  by_cases hnegz0 : qz0 < 0
  · go_wp2
    go_ret
    exact ⟨rfl, b15⟩
  have hsz0 := hrz0 (by omega)
  clear hrz0
  have HS0 : Hid (X0.rows.length ≤ 1048576) := hsz0
  clear hsz0
  go_wp2_with fail
  refine (szAccess_any X1 _ _ (hA1.stays b15) _ (by omega) (by omega)).mono ?_
  rintro e wz1 ⟨qz1, rfl, hqz1, hrz1, hbz1⟩
  have b30 := b15.trans (hbz1.mono b15.size)
  have x31 := cell_stays hbz1 x16
  have x32 := cell_stays hbz1 x17
  have x33 := cell_stays hbz1 x18
  have x34 := cell_stays hbz1 x19
  have x35 := cell_stays hbz1 x20
  have x36 := cell_stays hbz1 x21
  have x37 := cell_stays hbz1 x22
  have x38 := cell_stays hbz1 x23
  have x39 := cell_stays hbz1 x24
  have x40 := cell_stays hbz1 x25
  have x41 := cell_stays hbz1 x26
  have x42 := cell_stays hbz1 x27
  have x43 := cell_stays hbz1 x28
  have x44 := cell_stays hbz1 x29
  clear b15 x16 x17 x18 x19 x20 x21 x22 x23 x24 x25 x26 x27 x28 x29 hbz1
  by_cases hnegz1 : qz1 < 0
  · go_wp2
    go_ret
    exact ⟨rfl, b30⟩
  have hsz1 := hrz1 (by omega)
  clear hrz1
  have HS1 : Hid (X1.rows.length ≤ 1048576) := hsz1
  clear hsz1
  have TA44 : ∀ x, Below wz1.heap.size wz1 x → Below w.heap.size w x ∧ x.cell? ⟨w.heap.size, 0, none⟩ = some (.int .i64 X0.n) ∧ x.cell? ⟨w.heap.size, 1, none⟩ = some (.bool X0.w) ∧ x.cell? ⟨w.heap.size, 2, none⟩ = some (.int .i64 X0.t) ∧ x.cell? ⟨w.heap.size, 3, none⟩ = some (.bool X0.c) ∧ x.cell? ⟨w.heap.size, 4, none⟩ = some (.int .i64 X0.r) ∧ x.cell? ⟨w.heap.size, 5, none⟩ = some (.bool X0.s) ∧ x.cell? ⟨w.heap.size, 6, none⟩ = some (.slice a0 X0.rows.length c0) ∧ x.cell? ⟨w.heap.size + 1, 0, none⟩ = some (.int .i64 X1.n) ∧ x.cell? ⟨w.heap.size + 1, 1, none⟩ = some (.bool X1.w) ∧ x.cell? ⟨w.heap.size + 1, 2, none⟩ = some (.int .i64 X1.t) ∧ x.cell? ⟨w.heap.size + 1, 3, none⟩ = some (.bool X1.c) ∧ x.cell? ⟨w.heap.size + 1, 4, none⟩ = some (.int .i64 X1.r) ∧ x.cell? ⟨w.heap.size + 1, 5, none⟩ = some (.bool X1.s) ∧ x.cell? ⟨w.heap.size + 1, 6, none⟩ = some (.slice a1 X1.rows.length c1) := fun x hx => ⟨b30.trans (hx.mono b30.size), cell_stays hx x31, cell_stays hx x32, cell_stays hx x33, cell_stays hx x34, cell_stays hx x35, cell_stays hx x36, cell_stays hx x37, cell_stays hx x38, cell_stays hx x39, cell_stays hx x40, cell_stays hx x41, cell_stays hx x42, cell_stays hx x43, cell_stays hx x44⟩
  go_wp2_with fail
  refine region_last (fun x => Below w.heap.size w x ∧ x.cell? ⟨w.heap.size, 0, none⟩ = some (.int .i64 X0.n) ∧ x.cell? ⟨w.heap.size, 1, none⟩ = some (.bool X0.w) ∧ x.cell? ⟨w.heap.size, 2, none⟩ = some (.int .i64 X0.t) ∧ x.cell? ⟨w.heap.size, 3, none⟩ = some (.bool X0.c) ∧ x.cell? ⟨w.heap.size, 4, none⟩ = some (.int .i64 X0.r) ∧ x.cell? ⟨w.heap.size, 5, none⟩ = some (.bool X0.s) ∧ x.cell? ⟨w.heap.size, 6, none⟩ = some (.slice a0 X0.rows.length c0) ∧ x.cell? ⟨w.heap.size + 1, 0, none⟩ = some (.int .i64 X1.n) ∧ x.cell? ⟨w.heap.size + 1, 1, none⟩ = some (.bool X1.w) ∧ x.cell? ⟨w.heap.size + 1, 2, none⟩ = some (.int .i64 X1.t) ∧ x.cell? ⟨w.heap.size + 1, 3, none⟩ = some (.bool X1.c) ∧ x.cell? ⟨w.heap.size + 1, 4, none⟩ = some (.int .i64 X1.r) ∧ x.cell? ⟨w.heap.size + 1, 5, none⟩ = some (.bool X1.s) ∧ x.cell? ⟨w.heap.size + 1, 6, none⟩ = some (.slice a1 X1.rows.length c1)) (by kernel_rfl) (by kernel_rfl) (by kernel_rfl) (TA44 _ (Below.refl _ _).drew) (fun hHeld0 => ?_)
  simp only [List.dropLast, List.length_cons, List.length_nil, Nat.reduceAdd]
  refine takeL (i := 0) (v := ?_) rfl (by kernel_rfl) (by kernel_rfl) (by kernel_rfl) (fun _ _ _ h => h) rfl (by assumption) ?_ ?_
  rotate_left
  · (intro wS hSw; (try dsimp only at hSw); go_simp; try with_reducible rfl)
  (try simp only [Act.put, List.setIfInBounds_toArray, List.set_cons_zero, List.set_cons_succ])
  refine takeL (i := 2) (v := ?_) rfl (by kernel_rfl) (by kernel_rfl) (by kernel_rfl) (fun _ _ _ h => h) rfl (by assumption) ?_ ?_
  rotate_left
  · (intro wS hSw; (try dsimp only at hSw); go_simp; try with_reducible rfl)
  (try simp only [Act.put, List.setIfInBounds_toArray, List.set_cons_zero, List.set_cons_succ])
  refine stepL (i := 1) rfl (by kernel_rfl) (fun K hK => ?_)
  rw [if_pos (by rfl)]
  go_simp
  refine Calls.mono (toAccess_any X0 _ _ (hA0.stays (TA44 _ (Below.refl _ _).drew).1) HS0.out) ?_
  rintro e wr45 ⟨ar45, cr45, rfl, hvr45, hbr45⟩
  have t46 : Below wz1.heap.size wz1 wr45 := (Below.refl _ _).drew.trans hbr45
  refine hK.out _ _ (TA44 _ t46) (fun hHeld1 => ?_)
  clear hK K hHeld0
  (try simp only [Act.put, List.setIfInBounds_toArray, List.set_cons_zero, List.set_cons_succ])
  refine stepL (i := 3) rfl (by kernel_rfl) (fun K hK => ?_)
  rw [if_pos (by rfl)]
  go_simp
  refine Calls.mono (toAccess_any X1 _ _ (hA1.stays (TA44 _ t46).1) HS1.out) ?_
  rintro e wr47 ⟨ar47, cr47, rfl, hvr47, hbr47⟩
  have t48 : Below wz1.heap.size wz1 wr47 := t46.trans (hbr47.mono t46.size)
  refine hK.out _ _ (TA44 _ t48) (fun hHeld2 => ?_)
  clear hK K hHeld1
  have k49 := hvr45.stays hbr47
  clear hvr45
  (try simp only [Act.put, List.setIfInBounds_toArray, List.set_cons_zero, List.set_cons_succ])
  refine stepL (i := 4) rfl (by kernel_rfl) (fun K hK => ?_)
  rw [if_pos (by rfl)]
  go_simp
  refine (specCovered_any X0 X1 _ _ _ k49 hvr47).mono ?_
  rintro e wr50 ⟨⟨qS, rfl, hqS⟩, hbr50⟩
  change Hid _ at hqS
  have t51 : Below wz1.heap.size wz1 wr50 := t48.trans (hbr50.mono t48.size)
  refine hK.out _ _ (TA44 _ t51) (fun hHeld3 => ?_)
  clear hK K hHeld2
  have k52 := k49.stays hbr50
  clear k49
  have k53 := hvr47.stays hbr50
  clear hvr47
  (try simp only [Act.put, List.setIfInBounds_toArray, List.set_cons_zero, List.set_cons_succ])
  refine wpAnyH_done (by kernel_rfl) ?_ _
  refine lastL (n := 5) rfl rfl ?_
  go_simp
  clear hHeld3 TA44
  clear k52
  clear k53
  have ht := t51
  clear t51
  have b54 := b30.trans (ht.mono b30.size)
  have x55 := cell_stays ht x31
  have x56 := cell_stays ht x32
  have x57 := cell_stays ht x33
  have x58 := cell_stays ht x34
  have x59 := cell_stays ht x35
  have x60 := cell_stays ht x36
  have x61 := cell_stays ht x37
  have x62 := cell_stays ht x38
  have x63 := cell_stays ht x39
  have x64 := cell_stays ht x40
  have x65 := cell_stays ht x41
  have x66 := cell_stays ht x42
  have x67 := cell_stays ht x43
  have x68 := cell_stays ht x44
  clear b30 x31 x32 x33 x34 x35 x36 x37 x38 x39 x40 x41 x42 x43 x44 ht
  go_wp2_with fail
  refine Calls.mono (toAccess_any X0 _ _ (hA0.stays b54) HS0.out) ?_
  rintro e wy69 ⟨ay69, cy69, rfl, hvy69, hby69⟩
  have b70 := b54.trans (hby69.mono b54.size)
  have x71 := cell_stays hby69 x55
  have x72 := cell_stays hby69 x56
  have x73 := cell_stays hby69 x57
  have x74 := cell_stays hby69 x58
  have x75 := cell_stays hby69 x59
  have x76 := cell_stays hby69 x60
  have x77 := cell_stays hby69 x61
  have x78 := cell_stays hby69 x62
  have x79 := cell_stays hby69 x63
  have x80 := cell_stays hby69 x64
  have x81 := cell_stays hby69 x65
  have x82 := cell_stays hby69 x66
  have x83 := cell_stays hby69 x67
  have x84 := cell_stays hby69 x68
  clear b54 x55 x56 x57 x58 x59 x60 x61 x62 x63 x64 x65 x66 x67 x68 hby69
  have hbo : Below wy69.heap.size wy69 (wy69.alloc (Obj.cells #[.int .i64 X0.n, .bool X0.w, .int .i64 X0.t, .bool X0.c, .int .i64 X0.r, .bool X0.s, Value.slice ay69 X0.rows.length cy69] 27)) := (Below.refl _ _).alloc (Nat.le_refl _) _
  have b85 := b70.trans (hbo.mono b70.size)
  have x86 := cell_stays hbo x71
  have x87 := cell_stays hbo x72
  have x88 := cell_stays hbo x73
  have x89 := cell_stays hbo x74
  have x90 := cell_stays hbo x75
  have x91 := cell_stays hbo x76
  have x92 := cell_stays hbo x77
  have x93 := cell_stays hbo x78
  have x94 := cell_stays hbo x79
  have x95 := cell_stays hbo x80
  have x96 := cell_stays hbo x81
  have x97 := cell_stays hbo x82
  have x98 := cell_stays hbo x83
  have x99 := cell_stays hbo x84
  have h100 := hvy69.stays hbo
  clear b70 x71 x72 x73 x74 x75 x76 x77 x78 x79 x80 x81 x82 x83 x84 hvy69 hbo
  have x101 : (wy69.alloc (Obj.cells #[.int .i64 X0.n, .bool X0.w, .int .i64 X0.t, .bool X0.c, .int .i64 X0.r, .bool X0.s, Value.slice ay69 X0.rows.length cy69] 27)).cell? ⟨wy69.heap.size, 0, none⟩ = some (.int .i64 X0.n) := by simp [go_sem]
  have x102 : (wy69.alloc (Obj.cells #[.int .i64 X0.n, .bool X0.w, .int .i64 X0.t, .bool X0.c, .int .i64 X0.r, .bool X0.s, Value.slice ay69 X0.rows.length cy69] 27)).cell? ⟨wy69.heap.size, 1, none⟩ = some (.bool X0.w) := by simp [go_sem]
  have x103 : (wy69.alloc (Obj.cells #[.int .i64 X0.n, .bool X0.w, .int .i64 X0.t, .bool X0.c, .int .i64 X0.r, .bool X0.s, Value.slice ay69 X0.rows.length cy69] 27)).cell? ⟨wy69.heap.size, 2, none⟩ = some (.int .i64 X0.t) := by simp [go_sem]
  have x104 : (wy69.alloc (Obj.cells #[.int .i64 X0.n, .bool X0.w, .int .i64 X0.t, .bool X0.c, .int .i64 X0.r, .bool X0.s, Value.slice ay69 X0.rows.length cy69] 27)).cell? ⟨wy69.heap.size, 3, none⟩ = some (.bool X0.c) := by simp [go_sem]
  have x105 : (wy69.alloc (Obj.cells #[.int .i64 X0.n, .bool X0.w, .int .i64 X0.t, .bool X0.c, .int .i64 X0.r, .bool X0.s, Value.slice ay69 X0.rows.length cy69] 27)).cell? ⟨wy69.heap.size, 4, none⟩ = some (.int .i64 X0.r) := by simp [go_sem]
  have x106 : (wy69.alloc (Obj.cells #[.int .i64 X0.n, .bool X0.w, .int .i64 X0.t, .bool X0.c, .int .i64 X0.r, .bool X0.s, Value.slice ay69 X0.rows.length cy69] 27)).cell? ⟨wy69.heap.size, 5, none⟩ = some (.bool X0.s) := by simp [go_sem]
  have x107 : (wy69.alloc (Obj.cells #[.int .i64 X0.n, .bool X0.w, .int .i64 X0.t, .bool X0.c, .int .i64 X0.r, .bool X0.s, Value.slice ay69 X0.rows.length cy69] 27)).cell? ⟨wy69.heap.size, 6, none⟩ = some (.slice ay69 X0.rows.length cy69) := by simp [go_sem]
  go_wp2_with fail
  generalize (wy69.alloc (Obj.cells #[.int .i64 X0.n, .bool X0.w, .int .i64 X0.t, .bool X0.c, .int .i64 X0.r, .bool X0.s, Value.slice ay69 X0.rows.length cy69] 27)) = wy69a at *
  go_wp2_with fail
  refine Calls.mono (toAccess_any X1 _ _ (hA1.stays b85) HS1.out) ?_
  rintro e wy108 ⟨ay108, cy108, rfl, hvy108, hby108⟩
  have b109 := b85.trans (hby108.mono b85.size)
  have x110 := cell_stays hby108 x86
  have x111 := cell_stays hby108 x87
  have x112 := cell_stays hby108 x88
  have x113 := cell_stays hby108 x89
  have x114 := cell_stays hby108 x90
  have x115 := cell_stays hby108 x91
  have x116 := cell_stays hby108 x92
  have x117 := cell_stays hby108 x93
  have x118 := cell_stays hby108 x94
  have x119 := cell_stays hby108 x95
  have x120 := cell_stays hby108 x96
  have x121 := cell_stays hby108 x97
  have x122 := cell_stays hby108 x98
  have x123 := cell_stays hby108 x99
  have x124 := cell_stays hby108 x101
  have x125 := cell_stays hby108 x102
  have x126 := cell_stays hby108 x103
  have x127 := cell_stays hby108 x104
  have x128 := cell_stays hby108 x105
  have x129 := cell_stays hby108 x106
  have x130 := cell_stays hby108 x107
  have h131 := h100.stays hby108
  clear b85 x86 x87 x88 x89 x90 x91 x92 x93 x94 x95 x96 x97 x98 x99 x101 x102 x103 x104 x105 x106 x107 h100 hby108
  have hbo : Below wy108.heap.size wy108 (wy108.alloc (Obj.cells #[.int .i64 X1.n, .bool X1.w, .int .i64 X1.t, .bool X1.c, .int .i64 X1.r, .bool X1.s, Value.slice ay108 X1.rows.length cy108] 27)) := (Below.refl _ _).alloc (Nat.le_refl _) _
  have b132 := b109.trans (hbo.mono b109.size)
  have x133 := cell_stays hbo x110
  have x134 := cell_stays hbo x111
  have x135 := cell_stays hbo x112
  have x136 := cell_stays hbo x113
  have x137 := cell_stays hbo x114
  have x138 := cell_stays hbo x115
  have x139 := cell_stays hbo x116
  have x140 := cell_stays hbo x117
  have x141 := cell_stays hbo x118
  have x142 := cell_stays hbo x119
  have x143 := cell_stays hbo x120
  have x144 := cell_stays hbo x121
  have x145 := cell_stays hbo x122
  have x146 := cell_stays hbo x123
  have x147 := cell_stays hbo x124
  have x148 := cell_stays hbo x125
  have x149 := cell_stays hbo x126
  have x150 := cell_stays hbo x127
  have x151 := cell_stays hbo x128
  have x152 := cell_stays hbo x129
  have x153 := cell_stays hbo x130
  have h154 := h131.stays hbo
  have h155 := hvy108.stays hbo
  clear b109 x110 x111 x112 x113 x114 x115 x116 x117 x118 x119 x120 x121 x122 x123 x124 x125 x126 x127 x128 x129 x130 h131 hvy108 hbo
  have x156 : (wy108.alloc (Obj.cells #[.int .i64 X1.n, .bool X1.w, .int .i64 X1.t, .bool X1.c, .int .i64 X1.r, .bool X1.s, Value.slice ay108 X1.rows.length cy108] 27)).cell? ⟨wy108.heap.size, 0, none⟩ = some (.int .i64 X1.n) := by simp [go_sem]
  have x157 : (wy108.alloc (Obj.cells #[.int .i64 X1.n, .bool X1.w, .int .i64 X1.t, .bool X1.c, .int .i64 X1.r, .bool X1.s, Value.slice ay108 X1.rows.length cy108] 27)).cell? ⟨wy108.heap.size, 1, none⟩ = some (.bool X1.w) := by simp [go_sem]
  have x158 : (wy108.alloc (Obj.cells #[.int .i64 X1.n, .bool X1.w, .int .i64 X1.t, .bool X1.c, .int .i64 X1.r, .bool X1.s, Value.slice ay108 X1.rows.length cy108] 27)).cell? ⟨wy108.heap.size, 2, none⟩ = some (.int .i64 X1.t) := by simp [go_sem]
  have x159 : (wy108.alloc (Obj.cells #[.int .i64 X1.n, .bool X1.w, .int .i64 X1.t, .bool X1.c, .int .i64 X1.r, .bool X1.s, Value.slice ay108 X1.rows.length cy108] 27)).cell? ⟨wy108.heap.size, 3, none⟩ = some (.bool X1.c) := by simp [go_sem]
  have x160 : (wy108.alloc (Obj.cells #[.int .i64 X1.n, .bool X1.w, .int .i64 X1.t, .bool X1.c, .int .i64 X1.r, .bool X1.s, Value.slice ay108 X1.rows.length cy108] 27)).cell? ⟨wy108.heap.size, 4, none⟩ = some (.int .i64 X1.r) := by simp [go_sem]
  have x161 : (wy108.alloc (Obj.cells #[.int .i64 X1.n, .bool X1.w, .int .i64 X1.t, .bool X1.c, .int .i64 X1.r, .bool X1.s, Value.slice ay108 X1.rows.length cy108] 27)).cell? ⟨wy108.heap.size, 5, none⟩ = some (.bool X1.s) := by simp [go_sem]
  have x162 : (wy108.alloc (Obj.cells #[.int .i64 X1.n, .bool X1.w, .int .i64 X1.t, .bool X1.c, .int .i64 X1.r, .bool X1.s, Value.slice ay108 X1.rows.length cy108] 27)).cell? ⟨wy108.heap.size, 6, none⟩ = some (.slice ay108 X1.rows.length cy108) := by simp [go_sem]
  go_wp2_with fail
  generalize (wy108.alloc (Obj.cells #[.int .i64 X1.n, .bool X1.w, .int .i64 X1.t, .bool X1.c, .int .i64 X1.r, .bool X1.s, Value.slice ay108 X1.rows.length cy108] 27)) = wy108a at *
  refine (implCovered_any X0 X1 _ _ _ h154 h155 HS0.out HS1.out).mono ?_
  rintro e wG ⟨⟨qG, rfl, hqG⟩, hbG⟩
  obtain rfl : qG = qS := by rw [Bool.eq_iff_iff, hqG, hqS.out]
  clear hqG
  have b163 := b132.trans (hbG.mono b132.size)
  have x164 := cell_stays hbG x133
  have x165 := cell_stays hbG x134
  have x166 := cell_stays hbG x135
  have x167 := cell_stays hbG x136
  have x168 := cell_stays hbG x137
  have x169 := cell_stays hbG x138
  have x170 := cell_stays hbG x139
  have x171 := cell_stays hbG x140
  have x172 := cell_stays hbG x141
  have x173 := cell_stays hbG x142
  have x174 := cell_stays hbG x143
  have x175 := cell_stays hbG x144
  have x176 := cell_stays hbG x145
  have x177 := cell_stays hbG x146
  have x178 := cell_stays hbG x147
  have x179 := cell_stays hbG x148
  have x180 := cell_stays hbG x149
  have x181 := cell_stays hbG x150
  have x182 := cell_stays hbG x151
  have x183 := cell_stays hbG x152
  have x184 := cell_stays hbG x153
  have x185 := cell_stays hbG x156
  have x186 := cell_stays hbG x157
  have x187 := cell_stays hbG x158
  have x188 := cell_stays hbG x159
  have x189 := cell_stays hbG x160
  have x190 := cell_stays hbG x161
  have x191 := cell_stays hbG x162
  have h192 := h154.stays hbG
  have h193 := h155.stays hbG
  clear b132 x133 x134 x135 x136 x137 x138 x139 x140 x141 x142 x143 x144 x145 x146 x147 x148 x149 x150 x151 x152 x153 x156 x157 x158 x159 x160 x161 x162 h154 h155 hbG
  have TA193 : ∀ x, Below wG.heap.size wG x → Below w.heap.size w x ∧ x.cell? ⟨w.heap.size, 0, none⟩ = some (.int .i64 X0.n) ∧ x.cell? ⟨w.heap.size, 1, none⟩ = some (.bool X0.w) ∧ x.cell? ⟨w.heap.size, 2, none⟩ = some (.int .i64 X0.t) ∧ x.cell? ⟨w.heap.size, 3, none⟩ = some (.bool X0.c) ∧ x.cell? ⟨w.heap.size, 4, none⟩ = some (.int .i64 X0.r) ∧ x.cell? ⟨w.heap.size, 5, none⟩ = some (.bool X0.s) ∧ x.cell? ⟨w.heap.size, 6, none⟩ = some (.slice a0 X0.rows.length c0) ∧ x.cell? ⟨w.heap.size + 1, 0, none⟩ = some (.int .i64 X1.n) ∧ x.cell? ⟨w.heap.size + 1, 1, none⟩ = some (.bool X1.w) ∧ x.cell? ⟨w.heap.size + 1, 2, none⟩ = some (.int .i64 X1.t) ∧ x.cell? ⟨w.heap.size + 1, 3, none⟩ = some (.bool X1.c) ∧ x.cell? ⟨w.heap.size + 1, 4, none⟩ = some (.int .i64 X1.r) ∧ x.cell? ⟨w.heap.size + 1, 5, none⟩ = some (.bool X1.s) ∧ x.cell? ⟨w.heap.size + 1, 6, none⟩ = some (.slice a1 X1.rows.length c1) ∧ x.cell? ⟨wy69.heap.size, 0, none⟩ = some (.int .i64 X0.n) ∧ x.cell? ⟨wy69.heap.size, 1, none⟩ = some (.bool X0.w) ∧ x.cell? ⟨wy69.heap.size, 2, none⟩ = some (.int .i64 X0.t) ∧ x.cell? ⟨wy69.heap.size, 3, none⟩ = some (.bool X0.c) ∧ x.cell? ⟨wy69.heap.size, 4, none⟩ = some (.int .i64 X0.r) ∧ x.cell? ⟨wy69.heap.size, 5, none⟩ = some (.bool X0.s) ∧ x.cell? ⟨wy69.heap.size, 6, none⟩ = some (.slice ay69 X0.rows.length cy69) ∧ x.cell? ⟨wy108.heap.size, 0, none⟩ = some (.int .i64 X1.n) ∧ x.cell? ⟨wy108.heap.size, 1, none⟩ = some (.bool X1.w) ∧ x.cell? ⟨wy108.heap.size, 2, none⟩ = some (.int .i64 X1.t) ∧ x.cell? ⟨wy108.heap.size, 3, none⟩ = some (.bool X1.c) ∧ x.cell? ⟨wy108.heap.size, 4, none⟩ = some (.int .i64 X1.r) ∧ x.cell? ⟨wy108.heap.size, 5, none⟩ = some (.bool X1.s) ∧ x.cell? ⟨wy108.heap.size, 6, none⟩ = some (.slice ay108 X1.rows.length cy108) := fun x hx => ⟨b163.trans (hx.mono b163.size), cell_stays hx x164, cell_stays hx x165, cell_stays hx x166, cell_stays hx x167, cell_stays hx x168, cell_stays hx x169, cell_stays hx x170, cell_stays hx x171, cell_stays hx x172, cell_stays hx x173, cell_stays hx x174, cell_stays hx x175, cell_stays hx x176, cell_stays hx x177, cell_stays hx x178, cell_stays hx x179, cell_stays hx x180, cell_stays hx x181, cell_stays hx x182, cell_stays hx x183, cell_stays hx x184, cell_stays hx x185, cell_stays hx x186, cell_stays hx x187, cell_stays hx x188, cell_stays hx x189, cell_stays hx x190, cell_stays hx x191⟩
  go_wp2_with fail
  refine region_last (fun x => Below w.heap.size w x ∧ x.cell? ⟨w.heap.size, 0, none⟩ = some (.int .i64 X0.n) ∧ x.cell? ⟨w.heap.size, 1, none⟩ = some (.bool X0.w) ∧ x.cell? ⟨w.heap.size, 2, none⟩ = some (.int .i64 X0.t) ∧ x.cell? ⟨w.heap.size, 3, none⟩ = some (.bool X0.c) ∧ x.cell? ⟨w.heap.size, 4, none⟩ = some (.int .i64 X0.r) ∧ x.cell? ⟨w.heap.size, 5, none⟩ = some (.bool X0.s) ∧ x.cell? ⟨w.heap.size, 6, none⟩ = some (.slice a0 X0.rows.length c0) ∧ x.cell? ⟨w.heap.size + 1, 0, none⟩ = some (.int .i64 X1.n) ∧ x.cell? ⟨w.heap.size + 1, 1, none⟩ = some (.bool X1.w) ∧ x.cell? ⟨w.heap.size + 1, 2, none⟩ = some (.int .i64 X1.t) ∧ x.cell? ⟨w.heap.size + 1, 3, none⟩ = some (.bool X1.c) ∧ x.cell? ⟨w.heap.size + 1, 4, none⟩ = some (.int .i64 X1.r) ∧ x.cell? ⟨w.heap.size + 1, 5, none⟩ = some (.bool X1.s) ∧ x.cell? ⟨w.heap.size + 1, 6, none⟩ = some (.slice a1 X1.rows.length c1) ∧ x.cell? ⟨wy69.heap.size, 0, none⟩ = some (.int .i64 X0.n) ∧ x.cell? ⟨wy69.heap.size, 1, none⟩ = some (.bool X0.w) ∧ x.cell? ⟨wy69.heap.size, 2, none⟩ = some (.int .i64 X0.t) ∧ x.cell? ⟨wy69.heap.size, 3, none⟩ = some (.bool X0.c) ∧ x.cell? ⟨wy69.heap.size, 4, none⟩ = some (.int .i64 X0.r) ∧ x.cell? ⟨wy69.heap.size, 5, none⟩ = some (.bool X0.s) ∧ x.cell? ⟨wy69.heap.size, 6, none⟩ = some (.slice ay69 X0.rows.length cy69) ∧ x.cell? ⟨wy108.heap.size, 0, none⟩ = some (.int .i64 X1.n) ∧ x.cell? ⟨wy108.heap.size, 1, none⟩ = some (.bool X1.w) ∧ x.cell? ⟨wy108.heap.size, 2, none⟩ = some (.int .i64 X1.t) ∧ x.cell? ⟨wy108.heap.size, 3, none⟩ = some (.bool X1.c) ∧ x.cell? ⟨wy108.heap.size, 4, none⟩ = some (.int .i64 X1.r) ∧ x.cell? ⟨wy108.heap.size, 5, none⟩ = some (.bool X1.s) ∧ x.cell? ⟨wy108.heap.size, 6, none⟩ = some (.slice ay108 X1.rows.length cy108)) (by kernel_rfl) (by kernel_rfl) (by kernel_rfl) (TA193 _ (Below.refl _ _).drew) (fun hHeld0 => ?_)
  simp only [List.dropLast, List.length_cons, List.length_nil, Nat.reduceAdd]
  refine takeL (i := 0) (v := ?_) rfl (by kernel_rfl) (by kernel_rfl) (by kernel_rfl) (fun _ _ _ h => h) rfl (by assumption) ?_ ?_
  rotate_left
  · (intro wS hSw; (try dsimp only at hSw); go_simp; try with_reducible rfl)
  (try simp only [Act.put, List.setIfInBounds_toArray, List.set_cons_zero, List.set_cons_succ])
  refine takeL (i := 1) (v := ?_) rfl (by kernel_rfl) (by kernel_rfl) (by kernel_rfl) (fun _ _ _ h => h) rfl (by assumption) ?_ ?_
  rotate_left
  · (intro wS hSw; (try dsimp only at hSw); go_simp; try with_reducible rfl)
  (try simp only [Act.put, List.setIfInBounds_toArray, List.set_cons_zero, List.set_cons_succ])
  refine stepL (i := 2) rfl (by kernel_rfl) (fun K hK => ?_)
  rw [if_pos (by rfl)]
  go_simp
  refine Calls.mono (toAccess_any X0 _ _ (hA0.stays (TA193 _ (Below.refl _ _).drew).1) HS0.out) ?_
  rintro e wr194 ⟨ar194, cr194, rfl, hvr194, hbr194⟩
  have t195 : Below wG.heap.size wG wr194 := (Below.refl _ _).drew.trans hbr194
  refine hK.out _ _ (TA193 _ t195) (fun hHeld1 => ?_)
  clear hK K hHeld0
  (try simp only [Act.put, List.setIfInBounds_toArray, List.set_cons_zero, List.set_cons_succ])
  refine stepL (i := 3) rfl (by kernel_rfl) (fun K hK => ?_)
  rw [if_pos (by rfl)]
  go_simp
  refine (eqAccess_same X0 _ _ _ (h192.stays t195) hvr194).mono ?_
  rintro e wr196 ⟨rfl, hbr196⟩
  have t197 : Below wG.heap.size wG wr196 := t195.trans (hbr196.mono t195.size)
  refine hK.out _ _ (TA193 _ t197) (fun hHeld2 => ?_)
  clear hK K hHeld1
  have k198 := hvr194.stays hbr196
  clear hvr194
  (try simp only [Act.put, List.setIfInBounds_toArray, List.set_cons_zero, List.set_cons_succ])
  refine wpAnyH_done (by kernel_rfl) ?_ _
  refine lastL (n := 4) rfl rfl ?_
  go_simp
  clear hHeld2 TA193
  clear k198
  have ht := t197
  clear t197
  have b199 := b163.trans (ht.mono b163.size)
  have x200 := cell_stays ht x164
  have x201 := cell_stays ht x165
  have x202 := cell_stays ht x166
  have x203 := cell_stays ht x167
  have x204 := cell_stays ht x168
  have x205 := cell_stays ht x169
  have x206 := cell_stays ht x170
  have x207 := cell_stays ht x171
  have x208 := cell_stays ht x172
  have x209 := cell_stays ht x173
  have x210 := cell_stays ht x174
  have x211 := cell_stays ht x175
  have x212 := cell_stays ht x176
  have x213 := cell_stays ht x177
  have x214 := cell_stays ht x178
  have x215 := cell_stays ht x179
  have x216 := cell_stays ht x180
  have x217 := cell_stays ht x181
  have x218 := cell_stays ht x182
  have x219 := cell_stays ht x183
  have x220 := cell_stays ht x184
  have x221 := cell_stays ht x185
  have x222 := cell_stays ht x186
  have x223 := cell_stays ht x187
  have x224 := cell_stays ht x188
  have x225 := cell_stays ht x189
  have x226 := cell_stays ht x190
  have x227 := cell_stays ht x191
  have h228 := h192.stays ht
  have h229 := h193.stays ht
  clear b163 x164 x165 x166 x167 x168 x169 x170 x171 x172 x173 x174 x175 x176 x177 x178 x179 x180 x181 x182 x183 x184 x185 x186 x187 x188 x189 x190 x191 h192 h193 ht
  have TA229 : ∀ x, Below wr196.heap.size wr196 x → Below w.heap.size w x ∧ x.cell? ⟨w.heap.size, 0, none⟩ = some (.int .i64 X0.n) ∧ x.cell? ⟨w.heap.size, 1, none⟩ = some (.bool X0.w) ∧ x.cell? ⟨w.heap.size, 2, none⟩ = some (.int .i64 X0.t) ∧ x.cell? ⟨w.heap.size, 3, none⟩ = some (.bool X0.c) ∧ x.cell? ⟨w.heap.size, 4, none⟩ = some (.int .i64 X0.r) ∧ x.cell? ⟨w.heap.size, 5, none⟩ = some (.bool X0.s) ∧ x.cell? ⟨w.heap.size, 6, none⟩ = some (.slice a0 X0.rows.length c0) ∧ x.cell? ⟨w.heap.size + 1, 0, none⟩ = some (.int .i64 X1.n) ∧ x.cell? ⟨w.heap.size + 1, 1, none⟩ = some (.bool X1.w) ∧ x.cell? ⟨w.heap.size + 1, 2, none⟩ = some (.int .i64 X1.t) ∧ x.cell? ⟨w.heap.size + 1, 3, none⟩ = some (.bool X1.c) ∧ x.cell? ⟨w.heap.size + 1, 4, none⟩ = some (.int .i64 X1.r) ∧ x.cell? ⟨w.heap.size + 1, 5, none⟩ = some (.bool X1.s) ∧ x.cell? ⟨w.heap.size + 1, 6, none⟩ = some (.slice a1 X1.rows.length c1) ∧ x.cell? ⟨wy69.heap.size, 0, none⟩ = some (.int .i64 X0.n) ∧ x.cell? ⟨wy69.heap.size, 1, none⟩ = some (.bool X0.w) ∧ x.cell? ⟨wy69.heap.size, 2, none⟩ = some (.int .i64 X0.t) ∧ x.cell? ⟨wy69.heap.size, 3, none⟩ = some (.bool X0.c) ∧ x.cell? ⟨wy69.heap.size, 4, none⟩ = some (.int .i64 X0.r) ∧ x.cell? ⟨wy69.heap.size, 5, none⟩ = some (.bool X0.s) ∧ x.cell? ⟨wy69.heap.size, 6, none⟩ = some (.slice ay69 X0.rows.length cy69) ∧ x.cell? ⟨wy108.heap.size, 0, none⟩ = some (.int .i64 X1.n) ∧ x.cell? ⟨wy108.heap.size, 1, none⟩ = some (.bool X1.w) ∧ x.cell? ⟨wy108.heap.size, 2, none⟩ = some (.int .i64 X1.t) ∧ x.cell? ⟨wy108.heap.size, 3, none⟩ = some (.bool X1.c) ∧ x.cell? ⟨wy108.heap.size, 4, none⟩ = some (.int .i64 X1.r) ∧ x.cell? ⟨wy108.heap.size, 5, none⟩ = some (.bool X1.s) ∧ x.cell? ⟨wy108.heap.size, 6, none⟩ = some (.slice ay108 X1.rows.length cy108) := fun x hx => ⟨b199.trans (hx.mono b199.size), cell_stays hx x200, cell_stays hx x201, cell_stays hx x202, cell_stays hx x203, cell_stays hx x204, cell_stays hx x205, cell_stays hx x206, cell_stays hx x207, cell_stays hx x208, cell_stays hx x209, cell_stays hx x210, cell_stays hx x211, cell_stays hx x212, cell_stays hx x213, cell_stays hx x214, cell_stays hx x215, cell_stays hx x216, cell_stays hx x217, cell_stays hx x218, cell_stays hx x219, cell_stays hx x220, cell_stays hx x221, cell_stays hx x222, cell_stays hx x223, cell_stays hx x224, cell_stays hx x225, cell_stays hx x226, cell_stays hx x227⟩
  go_wp2_with fail
  refine region_last (fun x => Below w.heap.size w x ∧ x.cell? ⟨w.heap.size, 0, none⟩ = some (.int .i64 X0.n) ∧ x.cell? ⟨w.heap.size, 1, none⟩ = some (.bool X0.w) ∧ x.cell? ⟨w.heap.size, 2, none⟩ = some (.int .i64 X0.t) ∧ x.cell? ⟨w.heap.size, 3, none⟩ = some (.bool X0.c) ∧ x.cell? ⟨w.heap.size, 4, none⟩ = some (.int .i64 X0.r) ∧ x.cell? ⟨w.heap.size, 5, none⟩ = some (.bool X0.s) ∧ x.cell? ⟨w.heap.size, 6, none⟩ = some (.slice a0 X0.rows.length c0) ∧ x.cell? ⟨w.heap.size + 1, 0, none⟩ = some (.int .i64 X1.n) ∧ x.cell? ⟨w.heap.size + 1, 1, none⟩ = some (.bool X1.w) ∧ x.cell? ⟨w.heap.size + 1, 2, none⟩ = some (.int .i64 X1.t) ∧ x.cell? ⟨w.heap.size + 1, 3, none⟩ = some (.bool X1.c) ∧ x.cell? ⟨w.heap.size + 1, 4, none⟩ = some (.int .i64 X1.r) ∧ x.cell? ⟨w.heap.size + 1, 5, none⟩ = some (.bool X1.s) ∧ x.cell? ⟨w.heap.size + 1, 6, none⟩ = some (.slice a1 X1.rows.length c1) ∧ x.cell? ⟨wy69.heap.size, 0, none⟩ = some (.int .i64 X0.n) ∧ x.cell? ⟨wy69.heap.size, 1, none⟩ = some (.bool X0.w) ∧ x.cell? ⟨wy69.heap.size, 2, none⟩ = some (.int .i64 X0.t) ∧ x.cell? ⟨wy69.heap.size, 3, none⟩ = some (.bool X0.c) ∧ x.cell? ⟨wy69.heap.size, 4, none⟩ = some (.int .i64 X0.r) ∧ x.cell? ⟨wy69.heap.size, 5, none⟩ = some (.bool X0.s) ∧ x.cell? ⟨wy69.heap.size, 6, none⟩ = some (.slice ay69 X0.rows.length cy69) ∧ x.cell? ⟨wy108.heap.size, 0, none⟩ = some (.int .i64 X1.n) ∧ x.cell? ⟨wy108.heap.size, 1, none⟩ = some (.bool X1.w) ∧ x.cell? ⟨wy108.heap.size, 2, none⟩ = some (.int .i64 X1.t) ∧ x.cell? ⟨wy108.heap.size, 3, none⟩ = some (.bool X1.c) ∧ x.cell? ⟨wy108.heap.size, 4, none⟩ = some (.int .i64 X1.r) ∧ x.cell? ⟨wy108.heap.size, 5, none⟩ = some (.bool X1.s) ∧ x.cell? ⟨wy108.heap.size, 6, none⟩ = some (.slice ay108 X1.rows.length cy108)) (by kernel_rfl) (by kernel_rfl) (by kernel_rfl) (TA229 _ (Below.refl _ _).drew) (fun hHeld0 => ?_)
  simp only [List.dropLast, List.length_cons, List.length_nil, Nat.reduceAdd]
  refine takeL (i := 0) (v := ?_) rfl (by kernel_rfl) (by kernel_rfl) (by kernel_rfl) (fun _ _ _ h => h) rfl (by assumption) ?_ ?_
  rotate_left
  · (intro wS hSw; (try dsimp only at hSw); go_simp; try with_reducible rfl)
  (try simp only [Act.put, List.setIfInBounds_toArray, List.set_cons_zero, List.set_cons_succ])
  refine takeL (i := 1) (v := ?_) rfl (by kernel_rfl) (by kernel_rfl) (by kernel_rfl) (fun _ _ _ h => h) rfl (by assumption) ?_ ?_
  rotate_left
  · (intro wS hSw; (try dsimp only at hSw); go_simp; try with_reducible rfl)
  (try simp only [Act.put, List.setIfInBounds_toArray, List.set_cons_zero, List.set_cons_succ])
  refine stepL (i := 2) rfl (by kernel_rfl) (fun K hK => ?_)
  rw [if_pos (by rfl)]
  go_simp
  refine Calls.mono (toAccess_any X1 _ _ (hA1.stays (TA229 _ (Below.refl _ _).drew).1) HS1.out) ?_
  rintro e wr230 ⟨ar230, cr230, rfl, hvr230, hbr230⟩
  have t231 : Below wr196.heap.size wr196 wr230 := (Below.refl _ _).drew.trans hbr230
  refine hK.out _ _ (TA229 _ t231) (fun hHeld1 => ?_)
  clear hK K hHeld0
  (try simp only [Act.put, List.setIfInBounds_toArray, List.set_cons_zero, List.set_cons_succ])
  refine stepL (i := 3) rfl (by kernel_rfl) (fun K hK => ?_)
  rw [if_pos (by rfl)]
  go_simp
  refine (eqAccess_same X1 _ _ _ (h229.stays t231) hvr230).mono ?_
  rintro e wr232 ⟨rfl, hbr232⟩
  have t233 : Below wr196.heap.size wr196 wr232 := t231.trans (hbr232.mono t231.size)
  refine hK.out _ _ (TA229 _ t233) (fun hHeld2 => ?_)
  clear hK K hHeld1
  have k234 := hvr230.stays hbr232
  clear hvr230
  (try simp only [Act.put, List.setIfInBounds_toArray, List.set_cons_zero, List.set_cons_succ])
  refine wpAnyH_done (by kernel_rfl) ?_ _
  refine lastL (n := 4) rfl rfl ?_
  go_simp
  clear hHeld2 TA229
  clear k234
  have ht := t233
  clear t233
  have b235 := b199.trans (ht.mono b199.size)
  have x236 := cell_stays ht x200
  have x237 := cell_stays ht x201
  have x238 := cell_stays ht x202
  have x239 := cell_stays ht x203
  have x240 := cell_stays ht x204
  have x241 := cell_stays ht x205
  have x242 := cell_stays ht x206
  have x243 := cell_stays ht x207
  have x244 := cell_stays ht x208
  have x245 := cell_stays ht x209
  have x246 := cell_stays ht x210
  have x247 := cell_stays ht x211
  have x248 := cell_stays ht x212
  have x249 := cell_stays ht x213
  have x250 := cell_stays ht x214
  have x251 := cell_stays ht x215
  have x252 := cell_stays ht x216
  have x253 := cell_stays ht x217
  have x254 := cell_stays ht x218
  have x255 := cell_stays ht x219
  have x256 := cell_stays ht x220
  have x257 := cell_stays ht x221
  have x258 := cell_stays ht x222
  have x259 := cell_stays ht x223
  have x260 := cell_stays ht x224
  have x261 := cell_stays ht x225
  have x262 := cell_stays ht x226
  have x263 := cell_stays ht x227
  have h264 := h228.stays ht
  have h265 := h229.stays ht
  clear b199 x200 x201 x202 x203 x204 x205 x206 x207 x208 x209 x210 x211 x212 x213 x214 x215 x216 x217 x218 x219 x220 x221 x222 x223 x224 x225 x226 x227 h228 h229 ht
  go_wp2
  go_ret
  exact ⟨rfl, b235⟩

theorem ownCovered : ownKnob Try.prog.godebug = none := by kernel_rfl
theorem laidOutCovered : laidOutB Try.prog = true := by kernel_rfl

set_option maxRecDepth 100000 in
theorem liftedCovered (os : Os) (started : os.Started) (H : Type) (enc : TypeId × Value → H) :
    ReturnsInHanded {} Try.checked os 4 .any (Rows.fnExactCoveredSpec.pre6 enc Try.prog Try.f4 Rows.fnExactCoveredRow.domain false) (Rows.fnExactCoveredSpec.post enc Try.prog Try.f4 false true false false) := by
  refine returnsInHanded_of_change (C := Try.checked) ownCovered started (by kernel_rfl) Try.func4
    (ChangeSpec.witness6 (enc := enc) (C := Try.checked) false ⟨#[], #[.agg #[.int .i64 0, .bool false, .int .i64 0, .bool false, .int .i64 0, .bool false, .slice none 0 0], .agg #[.int .i64 0, .bool false, .int .i64 0, .bool false, .int .i64 0, .bool false, .slice none 0 0]], []⟩ 8 (by kernel_rfl) (by kernel_rfl) (by kernel_rfl) (by kernel_rfl)) ?_
  intro W base args ds gs before hval0 hW hcnd _
  have hval : ∀ (j : Nat) t v, Try.f4.params[j]? = some t → args[j]? = some v → Value.okWide Try.prog W .any base t v := hval0
  have hW' := hW
  obtain ⟨p, q, hA0, hV, rfl, hfz, hnd⟩ := hW
  have hA : DataW.TrodAll enc Try.prog W 0 (fun _ => true) true Try.f4.params.toList args.toList ds p := hA0
  rw [Try.params4] at hA hval
  obtain ⟨v0, vs0, d0, ds0, p0, q0, hargs, rfl, rfl, h0, r0⟩ := trodAll_cons hA
  obtain ⟨v1, vs1, d1, ds1, p1, q1, rfl, rfl, rfl, h1, r1⟩ := trodAll_cons r0
  obtain ⟨rfl, rfl, rfl⟩ := trodAll_nil r1
  obtain rfl : args = #[v0, v1] := by cases args; simp_all
  obtain ⟨rfl, rfl⟩ := trodVars_none hV
  have k0 := h0
  have k1 := h1
  have lt0 : ∀ x ∈ p0, x.block < W.heap.size := by obtain ⟨m, hm⟩ := k0; exact DataW.trod_lt m _ _ _ hm
  have lt1 : ∀ x ∈ p1, x.block < W.heap.size := by obtain ⟨m, hm⟩ := k1; exact DataW.trod_lt m _ _ _ hm
  obtain ⟨X0, vA0, rfl, hA0', hw0, _⟩ := open_access (hval 0 24 v0 rfl rfl) h0
  obtain ⟨X1, vA1, rfl, hA1, hw1, _⟩ := open_access (hval 1 24 v1 rfl rfl) h1
  clear hA0 hval0
  refine (exactCovered_any X0 vA0 X1 vA1 W hA0' hA1).mono fun e W' ⟨he, bel⟩ => ?_
  subst he
  exact ⟨_, rfl, _, _, _, [], _, [], hW', trodAll_mk1 (shut_bool Try.underlying4 _), trodAll_cons_mk (Below.trod laidOutCovered (by kernel_rfl) (of_decide_eq_true (by kernel_rfl)) k0 bel lt0) (trodAll_cons_mk (Below.trod laidOutCovered (by kernel_rfl) (of_decide_eq_true (by kernel_rfl)) k1 bel lt1) trodAll_mk0), rfl, bel.frame _, fun h => by cases h⟩

theorem exactCovered_holds : Rows.FnExactCoveredSaid :=
  OpenClaim.holds_of_wide 4 Try.f4 rfl rfl rfl rfl rfl rfl rfl ⟨rfl, rfl, rfl, rfl, rfl⟩ rfl rfl rfl rfl rfl (by kernel_rfl) Try.func4 (by kernel_rfl)
    (of_decide_eq_true (by kernel_rfl)) (by unfold Func.isWrapper; first | (rw [if_pos (by decide +kernel)]; kernel_rfl) | (rw [if_neg (by decide +kernel)]; exact ⟨rfl, rfl⟩))
    (fun os started H enc _ => liftedCovered os started H enc)

#print axioms exactCovered_holds
end Go.Proofs.Ytnfeijlljjdiiaa
