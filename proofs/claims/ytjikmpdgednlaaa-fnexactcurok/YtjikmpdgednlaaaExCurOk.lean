/- For every set and every run, the exact law of CurOk returns true, and both read afterwards as they read before. -/
import Derived.Test.YtjikmpdgednlaaaC6
import Derived.Test.YtjikmpdgednlaaaC7
import Derived.Test.YtjikmpdgednlaaaZSum
import Derived.Test.YtjikmpdgednlaaaTEq
import Derived.Test.YtjikmpdgednlaaaTOpen
import Derived.Test.YtjikmpdgednlaaaRegLast
import Derived.ChangeOld
namespace Go.Proofs.Ytjikmpdgednlaaa
open Go.ChangeShapes Go.WideShapes Go.ChangeAt Go.RowKit
set_option linter.unusedVariables false
set_option maxRecDepth 100000
attribute [local go_sem ↓] Go.wp_at_zero Go.wp_at_succ

set_option maxHeartbeats 4000000 in
theorem exactCurOk_any (v u : Value) (l : List Nd) (p : List Pr) (vv fv : Value) (pk : Int) (vs : List Va) (fs : List Vr) (w : World) {lo hi : Nat} {lo1 hi1 lo2 hi2 : Nat} (h : SetAt lo hi w v u l p) (hw : WfN l) (hp : WfP p) (hV : VarsAt lo1 hi1 w vv vs) (hF : VersAt lo2 hi2 w fv fs) (hwv : WfVa vs) :
    Calls Try.prog 3 #[.agg #[v, u], .agg #[.int .i64 pk, vv, fv]] w fun e w' => e = .returned (.bool true) ∧ Below w.heap.size w w' := by
  obtain ⟨a, c, b, d, rfl, rfl⟩ := h.forms
  obtain ⟨va, vc, hv1⟩ : ∃ a cap, vv = .slice a vs.length cap := by obtain ⟨a, cap, h1, _⟩ := hV; exact ⟨a, cap, h1⟩
  obtain ⟨fa, fc, hf1⟩ : ∃ a cap, fv = .slice a fs.length cap := by obtain ⟨a, cap, h1, _⟩ := hF; exact ⟨a, cap, h1⟩
  subst hv1 hf1
  have b0 : Below w.heap.size w ((w.alloc (Obj.cells #[Value.slice a l.length c, Value.slice b p.length d] 25)).alloc (Obj.cells #[.int .i64 pk, Value.slice va vs.length vc, Value.slice fa fs.length fc] 29)) := ((Below.refl _ _).alloc (Nat.le_refl _) _).alloc (by simp) _
  have x1 : ((w.alloc (Obj.cells #[Value.slice a l.length c, Value.slice b p.length d] 25)).alloc (Obj.cells #[.int .i64 pk, Value.slice va vs.length vc, Value.slice fa fs.length fc] 29)).cell? ⟨w.heap.size, 0, none⟩ = some (.slice a l.length c) := by simp [go_sem]
  have x2 : ((w.alloc (Obj.cells #[Value.slice a l.length c, Value.slice b p.length d] 25)).alloc (Obj.cells #[.int .i64 pk, Value.slice va vs.length vc, Value.slice fa fs.length fc] 29)).cell? ⟨w.heap.size, 1, none⟩ = some (.slice b p.length d) := by simp [go_sem]
  have x3 : ((w.alloc (Obj.cells #[Value.slice a l.length c, Value.slice b p.length d] 25)).alloc (Obj.cells #[.int .i64 pk, Value.slice va vs.length vc, Value.slice fa fs.length fc] 29)).cell? ⟨w.heap.size + 1, 0, none⟩ = some (.int .i64 pk) := by simp [go_sem]
  have x4 : ((w.alloc (Obj.cells #[Value.slice a l.length c, Value.slice b p.length d] 25)).alloc (Obj.cells #[.int .i64 pk, Value.slice va vs.length vc, Value.slice fa fs.length fc] 29)).cell? ⟨w.heap.size + 1, 1, none⟩ = some (.slice va vs.length vc) := by simp [go_sem]
  have x5 : ((w.alloc (Obj.cells #[Value.slice a l.length c, Value.slice b p.length d] 25)).alloc (Obj.cells #[.int .i64 pk, Value.slice va vs.length vc, Value.slice fa fs.length fc] 29)).cell? ⟨w.heap.size + 1, 2, none⟩ = some (.slice fa fs.length fc) := by simp [go_sem]
  go_enter Try.func3, Try.ntmps3
  go_wp2_with fail
  generalize ((w.alloc (Obj.cells #[Value.slice a l.length c, Value.slice b p.length d] 25)).alloc (Obj.cells #[.int .i64 pk, Value.slice va vs.length vc, Value.slice fa fs.length fc] 29)) = W0 at *
  refine (szSet_any _ _ l p _ (h.stays b0) hw hp _ (by omega) (by omega)).mono ?_
  rintro e wz0 ⟨qz0, rfl, hqz0, hrz0, hbz0⟩
  have b6 := b0.trans (hbz0.mono b0.size)
  have x7 := cell_stays hbz0 x1
  have x8 := cell_stays hbz0 x2
  have x9 := cell_stays hbz0 x3
  have x10 := cell_stays hbz0 x4
  have x11 := cell_stays hbz0 x5
  clear b0 x1 x2 x3 x4 x5 hbz0
  by_cases hnegz0 : qz0 < 0
  · go_wp2
    go_ret
    exact ⟨rfl, b6⟩
  have hsz0 := hrz0 (by omega)
  clear hrz0
  have HS : Hid (SmallS l p) := hsz0
  clear hsz0
  go_wp2_with fail
  refine (szCur_any pk _ _ vs fs _ (hV.stays b6) (hF.stays b6) hwv _ (by omega) (by omega)).mono ?_
  rintro e wz1 ⟨qz1, rfl, hqz1, hrz1, hbz1⟩
  have b12 := b6.trans (hbz1.mono b6.size)
  have x13 := cell_stays hbz1 x7
  have x14 := cell_stays hbz1 x8
  have x15 := cell_stays hbz1 x9
  have x16 := cell_stays hbz1 x10
  have x17 := cell_stays hbz1 x11
  clear b6 x7 x8 x9 x10 x11 hbz1
  by_cases hnegz1 : qz1 < 0
  · go_wp2
    go_ret
    exact ⟨rfl, b12⟩
  have hsz1 := hrz1 (by omega)
  clear hrz1
  have HC : Hid (SmallV vs ∧ fs.length ≤ 1048576) := hsz1
  clear hsz1
  have TA17 : ∀ x, Below wz1.heap.size wz1 x → Below w.heap.size w x ∧ x.cell? ⟨w.heap.size, 0, none⟩ = some (.slice a l.length c) ∧ x.cell? ⟨w.heap.size, 1, none⟩ = some (.slice b p.length d) ∧ x.cell? ⟨w.heap.size + 1, 0, none⟩ = some (.int .i64 pk) ∧ x.cell? ⟨w.heap.size + 1, 1, none⟩ = some (.slice va vs.length vc) ∧ x.cell? ⟨w.heap.size + 1, 2, none⟩ = some (.slice fa fs.length fc) := fun x hx => ⟨b12.trans (hx.mono b12.size), cell_stays hx x13, cell_stays hx x14, cell_stays hx x15, cell_stays hx x16, cell_stays hx x17⟩
  go_wp2_with fail
  refine region_last (fun x => Below w.heap.size w x ∧ x.cell? ⟨w.heap.size, 0, none⟩ = some (.slice a l.length c) ∧ x.cell? ⟨w.heap.size, 1, none⟩ = some (.slice b p.length d) ∧ x.cell? ⟨w.heap.size + 1, 0, none⟩ = some (.int .i64 pk) ∧ x.cell? ⟨w.heap.size + 1, 1, none⟩ = some (.slice va vs.length vc) ∧ x.cell? ⟨w.heap.size + 1, 2, none⟩ = some (.slice fa fs.length fc)) (by kernel_rfl) (by kernel_rfl) (by kernel_rfl) (TA17 _ (Below.refl _ _).drew) (fun hHeld0 => ?_)
  simp only [List.dropLast, List.length_cons, List.length_nil, Nat.reduceAdd]
  refine takeL (i := 0) (v := ?_) rfl (by kernel_rfl) (by kernel_rfl) (by kernel_rfl) (fun _ _ _ h => h) rfl (by assumption) ?_ ?_
  rotate_left
  · (intro wS hSw; (try dsimp only at hSw); go_simp; try with_reducible rfl)
  (try simp only [Act.put, List.setIfInBounds_toArray, List.set_cons_zero, List.set_cons_succ])
  refine takeL (i := 2) (v := ?_) rfl (by kernel_rfl) (by kernel_rfl) (by kernel_rfl) (fun _ _ _ h => h) rfl (by assumption) ?_ ?_
  rotate_left
  · (intro wS hSw; (try dsimp only at hSw); go_simp; try with_reducible rfl)
  (try simp only [Act.put, List.setIfInBounds_toArray, List.set_cons_zero, List.set_cons_succ])
  refine stepL (i := 1) rfl (by kernel_rfl) (fun K hK => ?_)
  rw [if_pos (by rfl)]
  go_simp
  refine (toSet_any _ _ l p _ (h.stays (TA17 _ (Below.refl _ _).drew).1) HS.out.1.1 HS.out.2.1).mono ?_
  rintro e wr18 ⟨ar18, cr18, br18, dr18, rfl, hvr18, hbr18⟩
  have t19 : Below wz1.heap.size wz1 wr18 := (Below.refl _ _).drew.trans hbr18
  refine hK.out _ _ (TA17 _ t19) (fun hHeld1 => ?_)
  clear hK K hHeld0
  (try simp only [Act.put, List.setIfInBounds_toArray, List.set_cons_zero, List.set_cons_succ])
  refine stepL (i := 3) rfl (by kernel_rfl) (fun K hK => ?_)
  rw [if_pos (by rfl)]
  go_simp
  refine Calls.mono (toCur_at pk _ _ vs fs _ (hV.stays (TA17 _ t19).1) (hF.stays (TA17 _ t19).1) HC.out.1.1 HC.out.2) ?_
  rintro e wr20 ⟨var20, vcr20, far20, fcr20, rfl, hvr20, hbr20⟩
  have t21 : Below wz1.heap.size wz1 wr20 := t19.trans (hbr20.mono t19.size)
  refine hK.out _ _ (TA17 _ t21) (fun hHeld2 => ?_)
  clear hK K hHeld1
  have k22 := hvr18.stays hbr20
  clear hvr18
  (try simp only [Act.put, List.setIfInBounds_toArray, List.set_cons_zero, List.set_cons_succ])
  refine stepL (i := 4) rfl (by kernel_rfl) (fun K hK => ?_)
  rw [if_pos (by rfl)]
  go_simp
  refine (specCurOk_any _ _ _ _ l p pk vs fs _ k22 hvr20.1 hvr20.2 HC.out.1.1).mono ?_
  rintro e wr23 ⟨⟨qS, rfl, hqS⟩, hbr23⟩
  change Hid _ at hqS
  have t24 : Below wz1.heap.size wz1 wr23 := t21.trans (hbr23.mono t21.size)
  refine hK.out _ _ (TA17 _ t24) (fun hHeld3 => ?_)
  clear hK K hHeld2
  have k25 := k22.stays hbr23
  clear k22
  have k26 := hvr20.stays hbr23
  clear hvr20
  (try simp only [Act.put, List.setIfInBounds_toArray, List.set_cons_zero, List.set_cons_succ])
  refine wpAnyH_done (by kernel_rfl) ?_ _
  refine lastL (n := 5) rfl rfl ?_
  go_simp
  clear hHeld3 TA17
  clear k25
  clear k26
  have ht := t24
  clear t24
  have b27 := b12.trans (ht.mono b12.size)
  have x28 := cell_stays ht x13
  have x29 := cell_stays ht x14
  have x30 := cell_stays ht x15
  have x31 := cell_stays ht x16
  have x32 := cell_stays ht x17
  clear b12 x13 x14 x15 x16 x17 ht
  go_wp2_with fail
  refine (toSet_any _ _ l p _ (h.stays b27) HS.out.1.1 HS.out.2.1).mono ?_
  rintro e wy33 ⟨ay33, cy33, by33, dy33, rfl, hvy33, hby33⟩
  have b34 := b27.trans (hby33.mono b27.size)
  have x35 := cell_stays hby33 x28
  have x36 := cell_stays hby33 x29
  have x37 := cell_stays hby33 x30
  have x38 := cell_stays hby33 x31
  have x39 := cell_stays hby33 x32
  clear b27 x28 x29 x30 x31 x32 hby33
  have hbo : Below wy33.heap.size wy33 (wy33.alloc (Obj.cells #[Value.slice ay33 l.length cy33, Value.slice by33 p.length dy33] 36)) := (Below.refl _ _).alloc (Nat.le_refl _) _
  have b40 := b34.trans (hbo.mono b34.size)
  have x41 := cell_stays hbo x35
  have x42 := cell_stays hbo x36
  have x43 := cell_stays hbo x37
  have x44 := cell_stays hbo x38
  have x45 := cell_stays hbo x39
  have h46 := hvy33.stays hbo
  clear b34 x35 x36 x37 x38 x39 hvy33 hbo
  have x47 : (wy33.alloc (Obj.cells #[Value.slice ay33 l.length cy33, Value.slice by33 p.length dy33] 36)).cell? ⟨wy33.heap.size, 0, none⟩ = some (.slice ay33 l.length cy33) := by simp [go_sem]
  have x48 : (wy33.alloc (Obj.cells #[Value.slice ay33 l.length cy33, Value.slice by33 p.length dy33] 36)).cell? ⟨wy33.heap.size, 1, none⟩ = some (.slice by33 p.length dy33) := by simp [go_sem]
  go_wp2_with fail
  generalize (wy33.alloc (Obj.cells #[Value.slice ay33 l.length cy33, Value.slice by33 p.length dy33] 36)) = wy33a at *
  go_wp2_with fail
  refine Calls.mono (toCur_at pk _ _ vs fs _ (hV.stays b40) (hF.stays b40) HC.out.1.1 HC.out.2) ?_
  rintro e wy49 ⟨vay49, vcy49, fay49, fcy49, rfl, hvy49, hby49⟩
  have b50 := b40.trans (hby49.mono b40.size)
  have x51 := cell_stays hby49 x41
  have x52 := cell_stays hby49 x42
  have x53 := cell_stays hby49 x43
  have x54 := cell_stays hby49 x44
  have x55 := cell_stays hby49 x45
  have x56 := cell_stays hby49 x47
  have x57 := cell_stays hby49 x48
  have h58 := h46.stays hby49
  clear b40 x41 x42 x43 x44 x45 x47 x48 h46 hby49
  have hbo : Below wy49.heap.size wy49 (wy49.alloc (Obj.cells #[.int .i64 pk, Value.slice vay49 vs.length vcy49, Value.slice fay49 fs.length fcy49] 41)) := (Below.refl _ _).alloc (Nat.le_refl _) _
  have b59 := b50.trans (hbo.mono b50.size)
  have x60 := cell_stays hbo x51
  have x61 := cell_stays hbo x52
  have x62 := cell_stays hbo x53
  have x63 := cell_stays hbo x54
  have x64 := cell_stays hbo x55
  have x65 := cell_stays hbo x56
  have x66 := cell_stays hbo x57
  have h67 := h58.stays hbo
  have h68 := hvy49.stays hbo
  clear b50 x51 x52 x53 x54 x55 x56 x57 h58 hvy49 hbo
  have x69 : (wy49.alloc (Obj.cells #[.int .i64 pk, Value.slice vay49 vs.length vcy49, Value.slice fay49 fs.length fcy49] 41)).cell? ⟨wy49.heap.size, 0, none⟩ = some (.int .i64 pk) := by simp [go_sem]
  have x70 : (wy49.alloc (Obj.cells #[.int .i64 pk, Value.slice vay49 vs.length vcy49, Value.slice fay49 fs.length fcy49] 41)).cell? ⟨wy49.heap.size, 1, none⟩ = some (.slice vay49 vs.length vcy49) := by simp [go_sem]
  have x71 : (wy49.alloc (Obj.cells #[.int .i64 pk, Value.slice vay49 vs.length vcy49, Value.slice fay49 fs.length fcy49] 41)).cell? ⟨wy49.heap.size, 2, none⟩ = some (.slice fay49 fs.length fcy49) := by simp [go_sem]
  go_wp2_with fail
  generalize (wy49.alloc (Obj.cells #[.int .i64 pk, Value.slice vay49 vs.length vcy49, Value.slice fay49 fs.length fcy49] 41)) = wy49a at *
  refine (implCurOk_any _ _ _ _ l p pk vs fs _ h67 h68.1 h68.2 (small_sum HS.out) HC.out.1.1).mono ?_
  rintro e wG ⟨⟨qG, rfl, hqG⟩, hbG⟩
  obtain rfl : qG = qS := by rw [Bool.eq_iff_iff, hqG, hqS.out]
  clear hqG
  have b72 := b59.trans (hbG.mono b59.size)
  have x73 := cell_stays hbG x60
  have x74 := cell_stays hbG x61
  have x75 := cell_stays hbG x62
  have x76 := cell_stays hbG x63
  have x77 := cell_stays hbG x64
  have x78 := cell_stays hbG x65
  have x79 := cell_stays hbG x66
  have x80 := cell_stays hbG x69
  have x81 := cell_stays hbG x70
  have x82 := cell_stays hbG x71
  have h83 := h67.stays hbG
  have h84 := h68.stays hbG
  clear b59 x60 x61 x62 x63 x64 x65 x66 x69 x70 x71 h67 h68 hbG
  have TA84 : ∀ x, Below wG.heap.size wG x → Below w.heap.size w x ∧ x.cell? ⟨w.heap.size, 0, none⟩ = some (.slice a l.length c) ∧ x.cell? ⟨w.heap.size, 1, none⟩ = some (.slice b p.length d) ∧ x.cell? ⟨w.heap.size + 1, 0, none⟩ = some (.int .i64 pk) ∧ x.cell? ⟨w.heap.size + 1, 1, none⟩ = some (.slice va vs.length vc) ∧ x.cell? ⟨w.heap.size + 1, 2, none⟩ = some (.slice fa fs.length fc) ∧ x.cell? ⟨wy33.heap.size, 0, none⟩ = some (.slice ay33 l.length cy33) ∧ x.cell? ⟨wy33.heap.size, 1, none⟩ = some (.slice by33 p.length dy33) ∧ x.cell? ⟨wy49.heap.size, 0, none⟩ = some (.int .i64 pk) ∧ x.cell? ⟨wy49.heap.size, 1, none⟩ = some (.slice vay49 vs.length vcy49) ∧ x.cell? ⟨wy49.heap.size, 2, none⟩ = some (.slice fay49 fs.length fcy49) := fun x hx => ⟨b72.trans (hx.mono b72.size), cell_stays hx x73, cell_stays hx x74, cell_stays hx x75, cell_stays hx x76, cell_stays hx x77, cell_stays hx x78, cell_stays hx x79, cell_stays hx x80, cell_stays hx x81, cell_stays hx x82⟩
  go_wp2_with fail
  refine region_last (fun x => Below w.heap.size w x ∧ x.cell? ⟨w.heap.size, 0, none⟩ = some (.slice a l.length c) ∧ x.cell? ⟨w.heap.size, 1, none⟩ = some (.slice b p.length d) ∧ x.cell? ⟨w.heap.size + 1, 0, none⟩ = some (.int .i64 pk) ∧ x.cell? ⟨w.heap.size + 1, 1, none⟩ = some (.slice va vs.length vc) ∧ x.cell? ⟨w.heap.size + 1, 2, none⟩ = some (.slice fa fs.length fc) ∧ x.cell? ⟨wy33.heap.size, 0, none⟩ = some (.slice ay33 l.length cy33) ∧ x.cell? ⟨wy33.heap.size, 1, none⟩ = some (.slice by33 p.length dy33) ∧ x.cell? ⟨wy49.heap.size, 0, none⟩ = some (.int .i64 pk) ∧ x.cell? ⟨wy49.heap.size, 1, none⟩ = some (.slice vay49 vs.length vcy49) ∧ x.cell? ⟨wy49.heap.size, 2, none⟩ = some (.slice fay49 fs.length fcy49)) (by kernel_rfl) (by kernel_rfl) (by kernel_rfl) (TA84 _ (Below.refl _ _).drew) (fun hHeld0 => ?_)
  simp only [List.dropLast, List.length_cons, List.length_nil, Nat.reduceAdd]
  refine takeL (i := 0) (v := ?_) rfl (by kernel_rfl) (by kernel_rfl) (by kernel_rfl) (fun _ _ _ h => h) rfl (by assumption) ?_ ?_
  rotate_left
  · (intro wS hSw; (try dsimp only at hSw); go_simp; try with_reducible rfl)
  (try simp only [Act.put, List.setIfInBounds_toArray, List.set_cons_zero, List.set_cons_succ])
  refine takeL (i := 1) (v := ?_) rfl (by kernel_rfl) (by kernel_rfl) (by kernel_rfl) (fun _ _ _ h => h) rfl (by assumption) ?_ ?_
  rotate_left
  · (intro wS hSw; (try dsimp only at hSw); go_simp; try with_reducible rfl)
  (try simp only [Act.put, List.setIfInBounds_toArray, List.set_cons_zero, List.set_cons_succ])
  refine stepL (i := 2) rfl (by kernel_rfl) (fun K hK => ?_)
  rw [if_pos (by rfl)]
  go_simp
  refine (toSet_any _ _ l p _ (h.stays (TA84 _ (Below.refl _ _).drew).1) HS.out.1.1 HS.out.2.1).mono ?_
  rintro e wr85 ⟨ar85, cr85, br85, dr85, rfl, hvr85, hbr85⟩
  have t86 : Below wG.heap.size wG wr85 := (Below.refl _ _).drew.trans hbr85
  refine hK.out _ _ (TA84 _ t86) (fun hHeld1 => ?_)
  clear hK K hHeld0
  (try simp only [Act.put, List.setIfInBounds_toArray, List.set_cons_zero, List.set_cons_succ])
  refine stepL (i := 3) rfl (by kernel_rfl) (fun K hK => ?_)
  rw [if_pos (by rfl)]
  go_simp
  refine (eqSet_same _ _ _ _ l p _ (h83.stays t86) hvr85).mono ?_
  rintro e wr87 ⟨rfl, hbr87⟩
  have t88 : Below wG.heap.size wG wr87 := t86.trans (hbr87.mono t86.size)
  refine hK.out _ _ (TA84 _ t88) (fun hHeld2 => ?_)
  clear hK K hHeld1
  have k89 := hvr85.stays hbr87
  clear hvr85
  (try simp only [Act.put, List.setIfInBounds_toArray, List.set_cons_zero, List.set_cons_succ])
  refine wpAnyH_done (by kernel_rfl) ?_ _
  refine lastL (n := 4) rfl rfl ?_
  go_simp
  clear hHeld2 TA84
  clear k89
  have ht := t88
  clear t88
  have b90 := b72.trans (ht.mono b72.size)
  have x91 := cell_stays ht x73
  have x92 := cell_stays ht x74
  have x93 := cell_stays ht x75
  have x94 := cell_stays ht x76
  have x95 := cell_stays ht x77
  have x96 := cell_stays ht x78
  have x97 := cell_stays ht x79
  have x98 := cell_stays ht x80
  have x99 := cell_stays ht x81
  have x100 := cell_stays ht x82
  have h101 := h83.stays ht
  have h102 := h84.stays ht
  clear b72 x73 x74 x75 x76 x77 x78 x79 x80 x81 x82 h83 h84 ht
  have TA102 : ∀ x, Below wr87.heap.size wr87 x → Below w.heap.size w x ∧ x.cell? ⟨w.heap.size, 0, none⟩ = some (.slice a l.length c) ∧ x.cell? ⟨w.heap.size, 1, none⟩ = some (.slice b p.length d) ∧ x.cell? ⟨w.heap.size + 1, 0, none⟩ = some (.int .i64 pk) ∧ x.cell? ⟨w.heap.size + 1, 1, none⟩ = some (.slice va vs.length vc) ∧ x.cell? ⟨w.heap.size + 1, 2, none⟩ = some (.slice fa fs.length fc) ∧ x.cell? ⟨wy33.heap.size, 0, none⟩ = some (.slice ay33 l.length cy33) ∧ x.cell? ⟨wy33.heap.size, 1, none⟩ = some (.slice by33 p.length dy33) ∧ x.cell? ⟨wy49.heap.size, 0, none⟩ = some (.int .i64 pk) ∧ x.cell? ⟨wy49.heap.size, 1, none⟩ = some (.slice vay49 vs.length vcy49) ∧ x.cell? ⟨wy49.heap.size, 2, none⟩ = some (.slice fay49 fs.length fcy49) := fun x hx => ⟨b90.trans (hx.mono b90.size), cell_stays hx x91, cell_stays hx x92, cell_stays hx x93, cell_stays hx x94, cell_stays hx x95, cell_stays hx x96, cell_stays hx x97, cell_stays hx x98, cell_stays hx x99, cell_stays hx x100⟩
  go_wp2_with fail
  refine region_last (fun x => Below w.heap.size w x ∧ x.cell? ⟨w.heap.size, 0, none⟩ = some (.slice a l.length c) ∧ x.cell? ⟨w.heap.size, 1, none⟩ = some (.slice b p.length d) ∧ x.cell? ⟨w.heap.size + 1, 0, none⟩ = some (.int .i64 pk) ∧ x.cell? ⟨w.heap.size + 1, 1, none⟩ = some (.slice va vs.length vc) ∧ x.cell? ⟨w.heap.size + 1, 2, none⟩ = some (.slice fa fs.length fc) ∧ x.cell? ⟨wy33.heap.size, 0, none⟩ = some (.slice ay33 l.length cy33) ∧ x.cell? ⟨wy33.heap.size, 1, none⟩ = some (.slice by33 p.length dy33) ∧ x.cell? ⟨wy49.heap.size, 0, none⟩ = some (.int .i64 pk) ∧ x.cell? ⟨wy49.heap.size, 1, none⟩ = some (.slice vay49 vs.length vcy49) ∧ x.cell? ⟨wy49.heap.size, 2, none⟩ = some (.slice fay49 fs.length fcy49)) (by kernel_rfl) (by kernel_rfl) (by kernel_rfl) (TA102 _ (Below.refl _ _).drew) (fun hHeld0 => ?_)
  simp only [List.dropLast, List.length_cons, List.length_nil, Nat.reduceAdd]
  refine takeL (i := 0) (v := ?_) rfl (by kernel_rfl) (by kernel_rfl) (by kernel_rfl) (fun _ _ _ h => h) rfl (by assumption) ?_ ?_
  rotate_left
  · (intro wS hSw; (try dsimp only at hSw); go_simp; try with_reducible rfl)
  (try simp only [Act.put, List.setIfInBounds_toArray, List.set_cons_zero, List.set_cons_succ])
  refine takeL (i := 1) (v := ?_) rfl (by kernel_rfl) (by kernel_rfl) (by kernel_rfl) (fun _ _ _ h => h) rfl (by assumption) ?_ ?_
  rotate_left
  · (intro wS hSw; (try dsimp only at hSw); go_simp; try with_reducible rfl)
  (try simp only [Act.put, List.setIfInBounds_toArray, List.set_cons_zero, List.set_cons_succ])
  refine stepL (i := 2) rfl (by kernel_rfl) (fun K hK => ?_)
  rw [if_pos (by rfl)]
  go_simp
  refine Calls.mono (toCur_at pk _ _ vs fs _ (hV.stays (TA102 _ (Below.refl _ _).drew).1) (hF.stays (TA102 _ (Below.refl _ _).drew).1) HC.out.1.1 HC.out.2) ?_
  rintro e wr103 ⟨var103, vcr103, far103, fcr103, rfl, hvr103, hbr103⟩
  have t104 : Below wr87.heap.size wr87 wr103 := (Below.refl _ _).drew.trans hbr103
  refine hK.out _ _ (TA102 _ t104) (fun hHeld1 => ?_)
  clear hK K hHeld0
  (try simp only [Act.put, List.setIfInBounds_toArray, List.set_cons_zero, List.set_cons_succ])
  refine stepL (i := 3) rfl (by kernel_rfl) (fun K hK => ?_)
  rw [if_pos (by rfl)]
  go_simp
  refine (eqCur_at pk _ _ _ _ vs fs _ (h102.stays t104) hvr103).mono ?_
  rintro e wr105 ⟨rfl, hbr105⟩
  have t106 : Below wr87.heap.size wr87 wr105 := t104.trans (hbr105.mono t104.size)
  refine hK.out _ _ (TA102 _ t106) (fun hHeld2 => ?_)
  clear hK K hHeld1
  have k107 := hvr103.stays hbr105
  clear hvr103
  (try simp only [Act.put, List.setIfInBounds_toArray, List.set_cons_zero, List.set_cons_succ])
  refine wpAnyH_done (by kernel_rfl) ?_ _
  refine lastL (n := 4) rfl rfl ?_
  go_simp
  clear hHeld2 TA102
  clear k107
  have ht := t106
  clear t106
  have b108 := b90.trans (ht.mono b90.size)
  have x109 := cell_stays ht x91
  have x110 := cell_stays ht x92
  have x111 := cell_stays ht x93
  have x112 := cell_stays ht x94
  have x113 := cell_stays ht x95
  have x114 := cell_stays ht x96
  have x115 := cell_stays ht x97
  have x116 := cell_stays ht x98
  have x117 := cell_stays ht x99
  have x118 := cell_stays ht x100
  have h119 := h101.stays ht
  have h120 := h102.stays ht
  clear b90 x91 x92 x93 x94 x95 x96 x97 x98 x99 x100 h101 h102 ht
  go_wp2
  go_ret
  exact ⟨rfl, b108⟩

theorem ownCurOk : ownKnob Try.prog.godebug = none := by kernel_rfl
theorem laidOutCurOk : laidOutB Try.prog = true := by kernel_rfl

set_option maxRecDepth 100000 in
theorem liftedCurOk (os : Os) (started : os.Started) (H : Type) (enc : TypeId × Value → H) :
    ReturnsInHanded {} Try.checked os 3 .any (Rows.fnExactCurOkSpec.pre6 enc Try.prog Try.f3 Rows.fnExactCurOkRow.domain false) (Rows.fnExactCurOkSpec.post enc Try.prog Try.f3 false true false false) := by
  refine returnsInHanded_of_change (C := Try.checked) ownCurOk started (by kernel_rfl) Try.func3
    (ChangeSpec.witness6 (enc := enc) (C := Try.checked) false ⟨#[], #[.agg #[.slice none 0 0, .slice none 0 0], .agg #[.int .i64 0, .slice none 0 0, .slice none 0 0]], []⟩ 8 (by kernel_rfl) (by kernel_rfl) (by kernel_rfl) (by kernel_rfl)) ?_
  intro W base args ds gs before hval0 hW hcnd _
  have hval : ∀ (j : Nat) t v, Try.f3.params[j]? = some t → args[j]? = some v → Value.okWide Try.prog W .any base t v := hval0
  have hW' := hW
  obtain ⟨p, q, hA0, hV, rfl, hfz, hnd⟩ := hW
  have hA : DataW.TrodAll enc Try.prog W 0 (fun _ => true) true Try.f3.params.toList args.toList ds p := hA0
  rw [Try.params3] at hA hval
  obtain ⟨v0, vs0, d0, ds0, p0, q0, hargs, rfl, rfl, h0, r0⟩ := trodAll_cons hA
  obtain ⟨v1, vs1, d1, ds1, p1, q1, rfl, rfl, rfl, h1, r1⟩ := trodAll_cons r0
  obtain ⟨rfl, rfl, rfl⟩ := trodAll_nil r1
  obtain rfl : args = #[v0, v1] := by cases args; simp_all
  obtain ⟨rfl, rfl⟩ := trodVars_none hV
  have k0 := h0
  have k1 := h1
  have lt0 : ∀ x ∈ p0, x.block < W.heap.size := by obtain ⟨m, hm⟩ := k0; exact DataW.trod_lt m _ _ _ hm
  have lt1 : ∀ x ∈ p1, x.block < W.heap.size := by obtain ⟨m, hm⟩ := k1; exact DataW.trod_lt m _ _ _ hm
  obtain ⟨a, b, l, r, rfl, hs, hn, hp⟩ := open_set (hval 0 25 v0 rfl rfl) h0
  obtain ⟨pk, vv, fv, vs, fs, rfl, hV1, hF1, hwV, hwF, hpk⟩ := open_cur (hval 1 29 v1 rfl rfl) h1
  clear hA0 hval0
  refine (exactCurOk_any a b l r vv fv pk vs fs W hs hn hp hV1 hF1 hwV).mono fun e W' ⟨he, bel⟩ => ?_
  subst he
  exact ⟨_, rfl, _, _, _, [], _, [], hW', trodAll_mk1 (shut_bool Try.underlying4 _), trodAll_cons_mk (Below.trod laidOutCurOk (by kernel_rfl) (of_decide_eq_true (by kernel_rfl)) k0 bel lt0) (trodAll_cons_mk (Below.trod laidOutCurOk (by kernel_rfl) (of_decide_eq_true (by kernel_rfl)) k1 bel lt1) trodAll_mk0), rfl, bel.frame _, fun h => by cases h⟩

theorem exactCurOk_holds : Rows.FnExactCurOkSaid :=
  OpenClaim.holds_of_wide 3 Try.f3 rfl rfl rfl rfl rfl rfl rfl ⟨rfl, rfl, rfl, rfl, rfl⟩ rfl rfl rfl rfl rfl (by kernel_rfl) Try.func3 (by kernel_rfl)
    (of_decide_eq_true (by kernel_rfl)) (by unfold Func.isWrapper; first | (rw [if_pos (by decide +kernel)]; kernel_rfl) | (rw [if_neg (by decide +kernel)]; exact ⟨rfl, rfl⟩))
    (fun os started H enc _ => liftedCurOk os started H enc)

#print axioms exactCurOk_holds
end Go.Proofs.Ytjikmpdgednlaaa
