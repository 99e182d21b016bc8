import Derived.Test.YtmecbppblbmchaaGreatDoorZ3
import Derived.Test.YtmecbppblbmchaaGreatDoorSpecPrune2
/- The specification's l2commit, on a state behind a pointer. -/
namespace Go.Proofs.YtmecbppblbmchaaGreatDoor
open Go.ChangeShapes Go.WideShapes Go.ChangeAt Go.RowKit Go.Sort
set_option linter.unusedVariables false
set_option maxRecDepth 100000
attribute [local go_sem ↓] Go.wp_at_zero Go.wp_at_succ

/-- What l2commit comes to on a state behind a pointer. -/
def CmL (base B : Nat) (m : Md) (tx : Int) (w w' : World) (e : Ending) : Prop := Below base w w' ∧ ∃ x code, RC m x tx code ∧ e = .returned (.int .i64 code) ∧ ((code = 0 ∧ ∃ s0 s1 vs vt ve wv, PtrM base w' B s0 s1 vs vt ve x wv) ∨ (code ≠ 0 ∧ x = md0))
theorem inAns_late {l : List Ch} {r : List Rw} : InAns l (1000000 + 1) r [] false := .inl ⟨fun h => by have := (hour_iff _).1 h.1.2.1; omega, rfl, rfl⟩

set_option maxHeartbeats 16000000 in
theorem l2commit_p (base B s0 s1 : Nat) (vs vt ve : Value) (m : Md) (wv : Nat → Value) (tx : Int) (i : Nat) (w : World) (h : PtrM base w B s0 s1 vs vt ve m wv) (hn : SmallM' m) (hok : mgrOk m) (hi : IsTx m tx i) (hwf : WfM m) :
    Calls Tryz.prog 51 #[.pointer (some ⟨B, 0, none⟩), .int .i64 (i : Int)] w fun e w' => CmL base B m tx w w' e := by
  have hM := h.own.mat hn
  obtain ⟨a1, cap1, hv1⟩ : ∃ a cap, vs = .slice a m.s.length cap := by obtain ⟨a, cap, h1, _⟩ := hM.s; exact ⟨a, cap, h1⟩
  obtain ⟨a2, cap2, hv2⟩ : ∃ a cap, vt = .slice a m.x.length cap := by obtain ⟨a, cap, h1, _⟩ := hM.x; exact ⟨a, cap, h1⟩
  obtain ⟨a3, cap3, hv3⟩ : ∃ a cap, ve = .slice a m.h.length cap := by obtain ⟨a, cap, h1, _⟩ := hM.h; exact ⟨a, cap, h1⟩
  subst hv1 hv2 hv3
  have hbase := h.base
  have hBl := h.box.lt
  have hhl := hn.h
  have hxl := hn.x
  have HO : Hid (mgrOk m) := hok
  have HI : Hid (IsTx m tx i) := hi
  have hil := hi.1
  have hie := hi.2.1
  have hso : storeOk m.s := hok.1
  have hro : rowsOk (tAt m.x i).w := (hok.2.2.2.2.2.2.2 i hil).2.2.2.2.2
  have hc0 : 0 ≤ m.c ∧ m.c ≤ 1000000 := by simpa only [hourB, decide_eq_true_eq] using hok.2.1
  obtain ⟨g, hg, hgb, y0, _⟩ := owns_cell h.own.x (txc_get m.x wv hil).1
  subst hg
  obtain ⟨_, e2, _, y1, _⟩ := owns_cell h.own.x (txc_get m.x wv hil).2.1
  cases e2
  obtain ⟨_, e2, _, y2, _⟩ := owns_cell h.own.x (txc_get m.x wv hil).2.2
  cases e2
  obtain ⟨wa, wcp, hwv⟩ := owns_sliceM (h.own.xw i hil)
  rw [hwv] at y2
  have hW := rows_ofOwns (h.own.xw i hil) (hn.w i hil)
  rw [hwv] at hW
  have hwl60 : (tAt m.x i).w.length ≤ 60 := hro.1
  have hgl : g < w.heap.size := cell_lt y0
  have hgB : g ≠ B := fun e => h.apart 0 (by omega) (by rw [e]; rfl)
  have hvl : ∀ k, (Value.slice a3 m.h.length cap3).ownBlock = some k → k < w.heap.size := fun k hk => (owns_ltM h.own.h hk).2
  have i0 : (0 : Int) ≤ (i : Int) := by omega
  have i1 : (i : Int) < (m.x.length : Int) := by omega
  rw [hie] at y0
  obtain ⟨x0, x1, x2, x3, x4⟩ := h.mbox
  have bT := below_alX w (Obj.cells #[.int .i64 tx, .int .i64 (tAt m.x i).s, .slice wa (tAt m.x i).w.length wcp] 97)
  have v0 : (w.alloc (Obj.cells #[.int .i64 tx, .int .i64 (tAt m.x i).s, .slice wa (tAt m.x i).w.length wcp] 97)).cell? ⟨w.heap.size, 0, none⟩ = some (.int .i64 tx) := by simp [go_sem]
  have v2 : (w.alloc (Obj.cells #[.int .i64 tx, .int .i64 (tAt m.x i).s, .slice wa (tAt m.x i).w.length wcp] 97)).cell? ⟨w.heap.size, 2, none⟩ = some (.slice wa (tAt m.x i).w.length wcp) := by simp [go_sem]
  have hT := h.stays bT
  have hMT := hM.stays bT
  have hWT := hW.stays bT
  have z4 := cell_stays bT x4
  have b0 := bT.mono (show base ≤ w.heap.size by omega)
  clear hok hi hie hwv hM hW
  change Hid _ at hso
  change Hid _ at hro
  go_enter Tryz.func51, Tryz.ntmps51
  by_cases e3 : (2998 : Int) < (m.h.length : Int)
  · have HE : Hid (¬ m.h.length ≤ 2998) := by show ¬ _; omega
    go_wp2
    go_ret
    exact ⟨b0, md0, 2, .inr (.inr (.inl ⟨HO.out, ⟨i, HI.out⟩, HE.out, rfl, rfl⟩)), rfl, .inr ⟨by decide, rfl⟩⟩
  have HE : Hid (m.h.length ≤ 2998) := by show _ ≤ _; omega
  go_wp2_with fail
  generalize w.alloc (Obj.cells #[.int .i64 tx, .int .i64 (tAt m.x i).s, .slice wa (tAt m.x i).w.length wcp] 97) = W1 at *
  clear x0 x1 x2 x3 x4 y0 y1 y2 h
  refine (l2lost_any B a1 cap1 _ _ m i W1 hT.mbox hMT.s hMT.x hso.out hil hwl60).mono ?_
  rintro e w3 ⟨⟨q, rfl, hq⟩, hb3⟩
  have HQ : Hid (q = true ↔ lostP m.s (tAt m.x i).w (tAt m.x i).s) := hq
  have b3w := bT.trans (hb3.mono bT.size)
  have b3 := b0.trans (hb3.mono (by have := bT.size; omega))
  have h3 := hT.stays hb3
  have hM3 := hMT.stays hb3
  have hW3 := hWT.stays hb3
  have u2 := cell_stays hb3 v2
  have u4 := cell_stays hb3 v0
  obtain ⟨u0, u1, _, _, _⟩ := h3.mbox
  have hz3 := b3w.size
  have hTl : w.heap.size < w3.heap.size := cell_lt u4
  clear hq v0 v2 z4 hT hMT hWT hb3 b0 bT b3w
  cases q with
  | true =>
    have HL : Hid (lostP m.s (tAt m.x i).w (tAt m.x i).s) := HQ.out.1 rfl
    clear HQ
    go_wp2
    go_ret
    exact ⟨b3, md0, 3, .inr (.inr (.inr (.inl ⟨HO.out, HE.out, ⟨i, HI.out, HL.out⟩, rfl, rfl⟩))), rfl, .inr ⟨by decide, rfl⟩⟩
  | false =>
    have HL : Hid (¬ lostP m.s (tAt m.x i).w (tAt m.x i).s) := fun hh => by have := HQ.out.2 hh; exact absurd this (by decide)
    clear HQ
    by_cases ec : m.c = 1000000
    · have hd : (m.c == 1000000) = true := by simpa using ec
      have HA : Hid (InAns m.s (m.c + 1) (tAt m.x i).w [] false) := by show InAns _ _ _ _ _; rw [ec]; exact inAns_late
      change Hid _ at ec
      go_wp2
      go_ret
      exact ⟨b3, md0, 2, .inr (.inr (.inr (.inr ⟨HO.out, HE.out, ⟨i, [], HI.out, HL.out, HA.out⟩, rfl, rfl⟩))), rfl, .inr ⟨by decide, rfl⟩⟩
    have hd : (m.c == 1000000) = false := by simpa using ec
    change Hid _ at ec
    have hwr : IntKind.i64.wrap (m.c + 1) = m.c + 1 := by rw [IntKind.wrap_i64] <;> omega
    have HInst : ∀ W, Below w3.heap.size w3 W → Calls Tryz.prog 87 #[.agg #[.slice a1 m.s.length cap1], .int .i64 (m.c + 1), .slice wa (tAt m.x i).w.length wcp] W fun e w' => InA W.heap.size w' m.s (m.c + 1) (tAt m.x i).w e ∧ Below W.heap.size W w' := fun W hWb => (specInstall_own _ m.s _ _ (tAt m.x i).w W (hM3.s.stays hWb) (hW3.stays hWb) hn.s (by omega)).mono (by rintro e w' ⟨h1, h2⟩; exact ⟨h1.inA hwf.1 (hwf.2 i hil), h2⟩)
    go_upto_region 8 with (fail)
    go_cut [6, 7] from 29 to 43 (fun t7 t8 wc => ∃ V lo sa sn sc o1 b, t7 = .pointer (some ⟨V, 0, none⟩) ∧ t8 = .bool b ∧ InAns m.s (m.c + 1) (tAt m.x i).w o1 b ∧ OwnS lo wc (.slice sa sn sc) o1 ∧ wc.cell? ⟨V, 0, none⟩ = some (.slice sa sn sc) ∧ Below w3.heap.size w3 wc ∧ w3.heap.size ≤ lo ∧ lo ≤ wc.heap.size ∧ w3.heap.size ≤ V)
    case first =>
      have t0 : Below w3.heap.size w3 w3.drew := (Below.refl _ _).drew
      have TA : ∀ x, Below w3.heap.size w3 x → x.cell? ⟨B, 0, none⟩ = some (.slice a1 m.s.length cap1) ∧ x.cell? ⟨B, 1, none⟩ = some (.int .i64 m.c) ∧ x.cell? ⟨w.heap.size, 2, none⟩ = some (.slice wa (tAt m.x i).w.length wcp) := fun x hx => ⟨cell_stays hx u0, cell_stays hx u1, cell_stays hx u2⟩
      refine region_all (fun x => x.cell? ⟨B, 0, none⟩ = some (.slice a1 m.s.length cap1) ∧ x.cell? ⟨B, 1, none⟩ = some (.int .i64 m.c) ∧ x.cell? ⟨w.heap.size, 2, none⟩ = some (.slice wa (tAt m.x i).w.length wcp)) (by kernel_rfl) (TA _ t0) (fun hHeld0 => ?_)
      simp only [List.length_cons, List.length_nil, Nat.reduceAdd]
      refine takeL (i := 0) (v := ?_) rfl (by kernel_rfl) (by kernel_rfl) (by kernel_rfl) (fun _ _ _ h => h) rfl (by assumption) ?_ ?_
      rotate_left
      · (intro wS hSw; (try dsimp only at hSw); go_simp; try with_reducible rfl)
      (try simp only [Act.put, List.setIfInBounds_toArray, List.set_cons_zero, List.set_cons_succ])
      refine takeL (i := 1) (v := ?_) rfl (by kernel_rfl) (by kernel_rfl) (by kernel_rfl) (fun _ _ _ h => h) rfl (by assumption) ?_ ?_
      rotate_left
      · (intro wS hSw; (try dsimp only at hSw); go_simp; try with_reducible rfl)
      (try simp only [Act.put, List.setIfInBounds_toArray, List.set_cons_zero, List.set_cons_succ])
      refine takeL (i := 2) (v := ?_) rfl (by kernel_rfl) (by kernel_rfl) (by kernel_rfl) (fun _ _ _ h => h) rfl (by assumption) ?_ ?_
      rotate_left
      · (intro wS hSw; (try dsimp only at hSw); go_simp; try with_reducible rfl)
      (try simp only [Act.put, List.setIfInBounds_toArray, List.set_cons_zero, List.set_cons_succ])
      refine takeL (i := 3) (v := ?_) rfl (by kernel_rfl) (by kernel_rfl) (by kernel_rfl) (fun _ _ _ h => h) rfl (by assumption) ?_ ?_
      rotate_left
      · (intro wS hSw; (try dsimp only at hSw); go_simp; try with_reducible rfl)
      (try simp only [Act.put, List.setIfInBounds_toArray, List.set_cons_zero, List.set_cons_succ])
      refine takeL (i := 4) (v := ?_) rfl (by kernel_rfl) (by kernel_rfl) (by kernel_rfl) (fun _ _ _ h => h) rfl (by assumption) ?_ ?_
      rotate_left
      · (intro wS hSw; (try dsimp only at hSw); go_simp; try with_reducible rfl)
      (try simp only [Act.put, List.setIfInBounds_toArray, List.set_cons_zero, List.set_cons_succ])
      refine takeL (i := 5) (v := ?_) rfl (by kernel_rfl) (by kernel_rfl) (by kernel_rfl) (fun _ _ _ h => h) rfl (by assumption) ?_ ?_
      rotate_left
      · (intro wS hSw; (try dsimp only at hSw); go_simp; try with_reducible rfl)
      (try simp only [Act.put, List.setIfInBounds_toArray, List.set_cons_zero, List.set_cons_succ])
      refine takeL (i := 6) (v := ?_) rfl (by kernel_rfl) (by kernel_rfl) (by kernel_rfl) (fun _ _ _ h => h) rfl (by assumption) ?_ ?_
      rotate_left
      · (intro wS hSw; (try dsimp only at hSw); go_simp; try with_reducible rfl)
      (try simp only [Act.put, List.setIfInBounds_toArray, List.set_cons_zero, List.set_cons_succ])
      refine takeL (i := 7) (v := ?_) rfl (by kernel_rfl) (by kernel_rfl) (by kernel_rfl) (fun _ _ _ h => h) rfl (by assumption) ?_ ?_
      rotate_left
      · (intro wS hSw; (try dsimp only at hSw); go_simp; try with_reducible rfl)
      (try simp only [Act.put, List.setIfInBounds_toArray, List.set_cons_zero, List.set_cons_succ])
      refine takeL (i := 8) (v := ?_) rfl (by kernel_rfl) (by kernel_rfl) (by kernel_rfl) (fun _ _ _ h => h) rfl (by assumption) ?_ ?_
      rotate_left
      · (intro wS hSw; (try dsimp only at hSw); go_simp; try with_reducible rfl)
      (try simp only [Act.put, List.setIfInBounds_toArray, List.set_cons_zero, List.set_cons_succ])
      refine takeL (i := 9) (v := ?_) rfl (by kernel_rfl) (by kernel_rfl) (by kernel_rfl) (fun _ _ _ h => h) rfl (by assumption) ?_ ?_
      rotate_left
      · (intro wS hSw; (try dsimp only at hSw); go_simp; try with_reducible rfl)
      (try simp only [Act.put, List.setIfInBounds_toArray, List.set_cons_zero, List.set_cons_succ])
      refine takeL (i := 10) (v := ?_) rfl (by kernel_rfl) (by kernel_rfl) (by kernel_rfl) (fun _ _ _ h => h) rfl (by assumption) ?_ ?_
      rotate_left
      · (intro wS hSw; (try dsimp only at hSw); go_simp; try with_reducible rfl)
      (try simp only [Act.put, List.setIfInBounds_toArray, List.set_cons_zero, List.set_cons_succ])
      refine step2L (i := 11) (j := 15) rfl rfl (by kernel_rfl) (fun K hK => ?_) (fun K hK => ?_)
      · rw [if_pos (by rfl)]
        go_simp
        refine (HInst _ t0).mono ?_
        rintro e w6 ⟨⟨sa, sn, sc, o1, b, rfl, hOS, hAns⟩, hb6⟩
        have t6 : Below w3.heap.size w3 w6 := t0.trans (hb6.mono t0.size)
        refine hK.out _ _ (TA _ t6) (fun hHeld1 => ?_)
        clear hK K hHeld0
        (try simp only [Act.put, List.setIfInBounds_toArray, List.set_cons_zero, List.set_cons_succ])
        refine takeL (i := 12) (v := ?_) rfl (by kernel_rfl) (by kernel_rfl) (by kernel_rfl) (fun _ _ _ h => h) rfl (by assumption) ?_ ?_
        rotate_left
        · (intro wS hSw; (try dsimp only at hSw); go_simp; try with_reducible rfl)
        (try simp only [Act.put, List.setIfInBounds_toArray, List.set_cons_zero, List.set_cons_succ])
        refine takeL (i := 13) (v := ?_) rfl (by kernel_rfl) (by kernel_rfl) (by kernel_rfl) (fun _ _ _ h => h) rfl (by assumption) ?_ ?_
        rotate_left
        · (intro wS hSw; (try dsimp only at hSw); go_simp; try with_reducible rfl)
        (try simp only [Act.put, List.setIfInBounds_toArray, List.set_cons_zero, List.set_cons_succ])
        refine takeL (i := 14) (v := ?_) rfl (by kernel_rfl) (by kernel_rfl) (by kernel_rfl) (fun _ _ _ h => h) rfl (by assumption) ?_ ?_
        rotate_left
        · (intro wS hSw; (try dsimp only at hSw); go_simp; try with_reducible rfl)
        (try simp only [Act.put, List.setIfInBounds_toArray, List.set_cons_zero, List.set_cons_succ])
        refine stepL (i := 15) rfl (by kernel_rfl) (fun K hK => ?_)
        rw [if_pos (by rfl)]
        go_simp
        have t7 : Below w3.heap.size w3 (w6.alloc (Obj.cells #[Value.slice none 0 0] 32)) := t6.alloc t6.size _
        refine hK.out _ _ (TA _ t7) (fun hHeld2 => ?_)
        clear hK K hHeld1
        (try simp only [Act.put, List.setIfInBounds_toArray, List.set_cons_zero, List.set_cons_succ])
        refine stepL (i := 16) rfl (by kernel_rfl) (fun K hK => ?_)
        rw [if_pos (by rfl)]
        go_simp
        have t8 : Below w3.heap.size w3 (w6.alloc (Obj.cells #[Value.slice sa sn sc] 32)) := t6.alloc t6.size _
        refine hK.out _ _ (TA _ t8) (fun hHeld3 => ?_)
        clear hK K hHeld2
        (try simp only [Act.put, List.setIfInBounds_toArray, List.set_cons_zero, List.set_cons_succ])
        refine takeL (i := 17) (v := ?_) rfl (by kernel_rfl) (by kernel_rfl) (by kernel_rfl) (fun _ _ _ h => h) rfl (by assumption) ?_ ?_
        rotate_left
        · (intro wS hSw; (try dsimp only at hSw); go_simp; try with_reducible rfl)
        (try simp only [Act.put, List.setIfInBounds_toArray, List.set_cons_zero, List.set_cons_succ])
        refine wpAnyH_done (by kernel_rfl) ?_ _
        have HA : Hid (InAns m.s (m.c + 1) (tAt m.x i).w o1 b) := hAns
        clear hAns hHeld3
        go_wp2
        go_meet
        case rel => exact ⟨w6.heap.size, w3.heap.size, sa, sn, sc, o1, b, rfl, rfl, HA.out, hOS.stays (below_alX _ _), by simp [go_sem], t8, Nat.le_refl _, t8.size, t6.size⟩
      · rw [if_pos (by rfl)]
        go_simp
        have tA : Below w3.heap.size w3 (w3.drew.alloc (Obj.cells #[Value.slice none 0 0] 32)) := t0.alloc (by exact Nat.le_refl _) _
        have z0 : (w3.drew.alloc (Obj.cells #[Value.slice none 0 0] 32)).cell? ⟨w3.heap.size, 0, none⟩ = some (.slice none 0 0) := by simp [go_sem]
        have zf : (w3.drew.alloc (Obj.cells #[Value.slice none 0 0] 32)).frozen? ⟨w3.heap.size, 0, none⟩ = false := by simp [go_sem]
        have zz : w3.heap.size < (w3.drew.alloc (Obj.cells #[Value.slice none 0 0] 32)).heap.size := by simp
        refine hK.out _ _ (TA _ tA) (fun hHeld1 => ?_)
        clear hK K hHeld0
        (try simp only [Act.put, List.setIfInBounds_toArray, List.set_cons_zero, List.set_cons_succ])
        refine stepL (i := 11) rfl (by kernel_rfl) (fun K hK => ?_)
        rw [if_pos (by rfl)]
        go_simp
        refine (HInst _ tA).mono ?_
        rintro e w6 ⟨⟨sa, sn, sc, o1, b, rfl, hOS, hAns⟩, hb6⟩
        have t6 : Below w3.heap.size w3 w6 := tA.trans (hb6.mono tA.size)
        have z0' := cell_stays hb6 z0
        have zf' : w6.frozen? ⟨w3.heap.size, 0, none⟩ = false := by rw [hb6.frozen (by exact zz)]; exact zf
        refine hK.out _ _ (TA _ t6) (fun hHeld2 => ?_)
        clear hK K hHeld1
        (try simp only [Act.put, List.setIfInBounds_toArray, List.set_cons_zero, List.set_cons_succ])
        refine takeL (i := 12) (v := ?_) rfl (by kernel_rfl) (by kernel_rfl) (by kernel_rfl) (fun _ _ _ h => h) rfl (by assumption) ?_ ?_
        rotate_left
        · (intro wS hSw; (try dsimp only at hSw); go_simp; try with_reducible rfl)
        (try simp only [Act.put, List.setIfInBounds_toArray, List.set_cons_zero, List.set_cons_succ])
        refine takeL (i := 13) (v := ?_) rfl (by kernel_rfl) (by kernel_rfl) (by kernel_rfl) (fun _ _ _ h => h) rfl (by assumption) ?_ ?_
        rotate_left
        · (intro wS hSw; (try dsimp only at hSw); go_simp; try with_reducible rfl)
        (try simp only [Act.put, List.setIfInBounds_toArray, List.set_cons_zero, List.set_cons_succ])
        refine takeL (i := 14) (v := ?_) rfl (by kernel_rfl) (by kernel_rfl) (by kernel_rfl) (fun _ _ _ h => h) rfl (by assumption) ?_ ?_
        rotate_left
        · (intro wS hSw; (try dsimp only at hSw); go_simp; try with_reducible rfl)
        (try simp only [Act.put, List.setIfInBounds_toArray, List.set_cons_zero, List.set_cons_succ])
        refine stepL (i := 16) rfl (by kernel_rfl) (fun K hK => ?_)
        rw [if_pos (by rfl)]
        go_simp
        have t8 : Below w3.heap.size w3 (w6.setCell ⟨w3.heap.size, 0, none⟩ (.slice sa sn sc)) := t6.setCell (p := ⟨w3.heap.size, 0, none⟩) (Nat.le_refl _) _
        refine hK.out _ _ (TA _ t8) (fun hHeld3 => ?_)
        clear hK K hHeld2
        (try simp only [Act.put, List.setIfInBounds_toArray, List.set_cons_zero, List.set_cons_succ])
        refine takeL (i := 17) (v := ?_) rfl (by kernel_rfl) (by kernel_rfl) (by kernel_rfl) (fun _ _ _ h => h) rfl (by assumption) ?_ ?_
        rotate_left
        · (intro wS hSw; (try dsimp only at hSw); go_simp; try with_reducible rfl)
        (try simp only [Act.put, List.setIfInBounds_toArray, List.set_cons_zero, List.set_cons_succ])
        refine wpAnyH_done (by kernel_rfl) ?_ _
        have HA : Hid (InAns m.s (m.c + 1) (tAt m.x i).w o1 b) := hAns
        have hOS' := hOS.set (B := w3.heap.size) (by exact zz) (.slice sa sn sc)
        have hz68 := size_setCell w6 ⟨w3.heap.size, 0, none⟩ (.slice sa sn sc)
        have hzb := hb6.size
        clear hAns hHeld3
        go_wp2
        go_meet
        case rel => exact ⟨w3.heap.size, _, sa, sn, sc, o1, b, rfl, rfl, HA.out, hOS', by simp [go_sem, z0'], t8, Nat.le_of_lt zz, by rw [hz68]; exact hzb, Nat.le_refl _⟩
    case rest =>
      obtain ⟨V, lo, sa, sn, sc, o1, b, rfl, rfl, hAns, hOS, hV, bX, hlo1, hlo2, hV0⟩ := hcut
      have HA : Hid (InAns m.s (m.c + 1) (tAt m.x i).w o1 b) := hAns
      have hsm := hAns.small
      have hwo := hAns.wfCh
      have b4 := b3.trans (bX.mono (by have := h3.box.lt; omega))
      have h4 := h3.stays bX
      have hz4 := bX.size
      have hB3 := h3.box.lt
      have u4' := cell_stays bX u4
      clear hAns HInst u0 u1 u2 u4 hM3 hW3 b3 h3
      generalize wc = w4 at *
      cases b with
      | false =>
        go_wp2
        go_ret
        exact ⟨b4, md0, 2, .inr (.inr (.inr (.inr ⟨HO.out, HE.out, ⟨i, o1, HI.out, HL.out, HA.out⟩, rfl, rfl⟩))), rfl, .inr ⟨by decide, rfl⟩⟩
      | true =>
        obtain ⟨c1, f1⟩ := h4.cell (j := 1) (by omega)
        simp only [bxf] at c1
        have h5 := h4.setC (m.c + 1)
        have b5 := b4.setCell (p := ⟨B, 1, none⟩) hbase (.int .i64 (m.c + 1))
        have hOS5 : OwnS lo (w4.setCell ⟨B, 1, none⟩ (.int .i64 (m.c + 1))) (.slice sa sn sc) o1 := hOS.keep (fun k h1 h2 => Below.heap_setCell _ _ _ _ (by show k ≠ B; omega)) (by rw [size_setCell]; exact Nat.le_refl _)
        have u5 : (w4.setCell ⟨B, 1, none⟩ (.int .i64 (m.c + 1))).cell? ⟨w.heap.size, 0, none⟩ = some (.int .i64 tx) := cell_same (Below.heap_setCell _ _ _ _ (by show w.heap.size ≠ B; omega)) u4'
        have hV5 : (w4.setCell ⟨B, 1, none⟩ (.int .i64 (m.c + 1))).cell? ⟨V, 0, none⟩ = some (.slice sa sn sc) := cell_same (Below.heap_setCell _ _ _ _ (by show V ≠ B; omega)) hV
        have hz5 : w4.heap.size ≤ (w4.setCell ⟨B, 1, none⟩ (.int .i64 (m.c + 1))).heap.size := by rw [size_setCell]; exact Nat.le_refl _
        clear hOS hV b4 h4 bX u4'
        go_wp2_with fail
        generalize w4.setCell ⟨B, 1, none⟩ (.int .i64 (m.c + 1)) = W5 at *
        clear c1 f1
        obtain ⟨c1, _⟩ := h5.cell (j := 1) (by omega)
        obtain ⟨c4, _⟩ := h5.cell (j := 4) (by omega)
        simp only [bxf] at c1 c4
        obtain ⟨ti, hI, hz0, hz1, hz2⟩ := info_parts infoEv
        have hB5l := h5.box.lt
        have hzW : base ≤ W5.heap.size := by omega
        have bD := (Below.refl W5.heap.size W5).drew
        refine region_last (fun x => x.cell? ⟨B, 1, none⟩ = some (.int .i64 (m.c + 1)) ∧ x.cell? ⟨B, 4, none⟩ = some (.slice a3 m.h.length cap3) ∧ x.cell? ⟨w.heap.size, 0, none⟩ = some (.int .i64 tx)) (by kernel_rfl) (by kernel_rfl) (by kernel_rfl) ⟨cell_stays bD c1, cell_stays bD c4, cell_stays bD u5⟩ (fun hHeld0 => ?_)
        simp only [List.dropLast, List.length_cons, List.length_nil, Nat.reduceAdd]
        have hbt := build_evC tx (m.c + 1)
        refine takeL (i := 0) (v := ?_) rfl (by kernel_rfl) (by kernel_rfl) (by kernel_rfl) (fun _ _ _ h => h) rfl (by assumption) ?_ ?_
        rotate_left
        · (intro wS hSw; (try dsimp only at hSw); go_simp; try with_reducible rfl)
        (try simp only [Act.put, List.setIfInBounds_toArray, List.set_cons_zero, List.set_cons_succ])
        refine takeL (i := 1) (v := ?_) rfl (by kernel_rfl) (by kernel_rfl) (by kernel_rfl) (fun _ _ _ h => h) rfl (by assumption) ?_ ?_
        rotate_left
        · (intro wS hSw; (try dsimp only at hSw); go_simp; try with_reducible rfl)
        (try simp only [Act.put, List.setIfInBounds_toArray, List.set_cons_zero, List.set_cons_succ])
        refine takeL (i := 2) (v := ?_) rfl (by kernel_rfl) (by kernel_rfl) (by kernel_rfl) (fun _ _ _ h => h) rfl (by assumption) ?_ ?_
        rotate_left
        · (intro wS hSw; (try dsimp only at hSw); go_simp; try with_reducible rfl)
        (try simp only [Act.put, List.setIfInBounds_toArray, List.set_cons_zero, List.set_cons_succ])
        refine takeL (i := 3) (v := ?_) rfl (by kernel_rfl) (by kernel_rfl) (by kernel_rfl) (fun _ _ _ h => h) rfl (by assumption) ?_ ?_
        rotate_left
        · (intro wS hSw; (try dsimp only at hSw); go_simp; try with_reducible rfl)
        (try simp only [Act.put, List.setIfInBounds_toArray, List.set_cons_zero, List.set_cons_succ])
        refine takeL (i := 4) (v := ?_) rfl (by kernel_rfl) (by kernel_rfl) (by kernel_rfl) (fun _ _ _ h => h) rfl (by assumption) ?_ ?_
        rotate_left
        · (intro wS hSw; (try dsimp only at hSw); go_simp; try with_reducible rfl)
        (try simp only [Act.put, List.setIfInBounds_toArray, List.set_cons_zero, List.set_cons_succ])
        refine takeL (i := 5) (v := ?_) rfl (by kernel_rfl) (by kernel_rfl) (by kernel_rfl) (fun _ _ _ h => h) rfl (by assumption) ?_ ?_
        rotate_left
        · (intro wS hSw; (try dsimp only at hSw); go_simp; try with_reducible rfl)
        (try simp only [Act.put, List.setIfInBounds_toArray, List.set_cons_zero, List.set_cons_succ])
        refine takeL (i := 6) (v := ?_) rfl (by kernel_rfl) (by kernel_rfl) (by kernel_rfl) (fun _ _ _ h => h) rfl (by assumption) ?_ ?_
        rotate_left
        · (intro wS hSw; (try dsimp only at hSw); go_simp; try with_reducible rfl)
        (try simp only [Act.put, List.setIfInBounds_toArray, List.set_cons_zero, List.set_cons_succ])
        refine takeL (i := 7) (v := ?_) rfl (by kernel_rfl) (by kernel_rfl) (by kernel_rfl) (fun _ _ _ h => h) rfl (by assumption) ?_ ?_
        rotate_left
        · (intro wS hSw; (try dsimp only at hSw); go_simp; try with_reducible rfl)
        (try simp only [Act.put, List.setIfInBounds_toArray, List.set_cons_zero, List.set_cons_succ])
        refine takeL (i := 8) (v := ?_) rfl (by kernel_rfl) (by kernel_rfl) (by kernel_rfl) (fun _ _ _ h => h) rfl (by assumption) ?_ ?_
        rotate_left
        · (intro wS hSw; (try dsimp only at hSw); go_simp; try with_reducible rfl)
        (try simp only [Act.put, List.setIfInBounds_toArray, List.set_cons_zero, List.set_cons_succ])
        refine takeL (i := 9) (v := ?_) rfl (by kernel_rfl) (by kernel_rfl) (by kernel_rfl) (fun _ _ _ h => h) rfl (by assumption) ?_ ?_
        rotate_left
        · (intro wS hSw; (try dsimp only at hSw); go_simp; try with_reducible rfl)
        (try simp only [Act.put, List.setIfInBounds_toArray, List.set_cons_zero, List.set_cons_succ])
        refine takeL (i := 10) (v := ?_) rfl (by kernel_rfl) (by kernel_rfl) (by kernel_rfl) (fun _ _ _ h => h) rfl (by assumption) ?_ ?_
        rotate_left
        · (intro wS hSw; (try dsimp only at hSw); go_simp; try with_reducible rfl)
        (try simp only [Act.put, List.setIfInBounds_toArray, List.set_cons_zero, List.set_cons_succ])
        refine takeL (i := 11) (v := ?_) rfl (by kernel_rfl) (by kernel_rfl) (by kernel_rfl) (fun _ _ _ h => h) rfl (by assumption) ?_ ?_
        rotate_left
        · (intro wS hSw; (try dsimp only at hSw); go_simp; try with_reducible rfl)
        (try simp only [Act.put, List.setIfInBounds_toArray, List.set_cons_zero, List.set_cons_succ])
        refine stepL (i := 12) rfl (by kernel_rfl) (fun K hK => ?_)
        rw [if_pos (by rfl)]
        go_simp
        have bA := bD.alloc (by exact Nat.le_refl _) (Obj.cells #[.int .i64 4, .int .i64 tx, .int .i64 0, .int .i64 0, .int .i64 0, .int .i64 (m.c + 1)] 101)
        refine hK.out _ _ ⟨cell_stays bA c1, cell_stays bA c4, cell_stays bA u5⟩ (fun hHeld1 => ?_)
        clear hK K hHeld0
        (try simp only [Act.put, List.setIfInBounds_toArray, List.set_cons_zero, List.set_cons_succ])
        refine stepL (i := 13) rfl (by kernel_rfl) (fun K hK => ?_)
        have hXA := owns_keepM h5.own.h fun g hg hl => bA.block g hl
        refine step_append_lies _ (by rfl) _ _ _ (by rfl) base 101 ti _ 6 48 Tryz.underlying34 hI hz0 hz1 hz2 rfl (by omega) (.slice a3 m.h.length cap3) m.h.length (hexa m.h) (by rfl) hXA ⟨W5.heap.size, 0, none⟩ 1 1 [.int .i64 4, .int .i64 tx, .int .i64 0, .int .i64 0, .int .i64 0, .int .i64 (m.c + 1)] (by rfl) (by rfl) (newsM W5.drew _ _) (by intro u hu; simp at hu; rcases hu with rfl | rfl | rfl | rfl | rfl | rfl <;> rfl) (by omega) (by unfold maxLen; omega) (by omega) (by simp; omega) (W5.heap.size + 1) (by simp) ?_
        intro gg cap5 w6 hown6 hgrow6 hat6 hlt6
        have hnB := h5.apart 1 (by omega)
        have k5 : ∀ (o : Nat) (u : Value), W5.cell? ⟨B, o, none⟩ = some u → w6.cell? ⟨B, o, none⟩ = some u := fun o u hu => cell_same (hgrow6.block B (Nat.lt_of_lt_of_le hB5l (by have := bA.size; exact this)) (fun e => hnB e.symm)) (cell_stays bA hu)
        refine hK.out _ _ ⟨k5 _ _ c1, k5 _ _ c4, cell_same (hgrow6.block w.heap.size (Nat.lt_of_lt_of_le (cell_lt u5) (by have := bA.size; exact this)) (fun e => by have := hvl _ e.symm; omega)) (cell_stays bA u5)⟩ (fun hHeld2 => ?_)
        clear hK K hHeld1
        (try simp only [Act.put, List.setIfInBounds_toArray, List.set_cons_zero, List.set_cons_succ])
        refine takeL (i := 14) (v := ?_) rfl (by kernel_rfl) (by kernel_rfl) (by kernel_rfl) (fun _ _ _ h => h) rfl (by assumption) ?_ ?_
        rotate_left
        · (intro wS hSw; (try dsimp only at hSw); go_simp; try with_reducible rfl)
        (try simp only [Act.put, List.setIfInBounds_toArray, List.set_cons_zero, List.set_cons_succ])
        refine takeL (i := 15) (v := ?_) rfl (by kernel_rfl) (by kernel_rfl) (by kernel_rfl) (fun _ _ _ h => h) rfl (by assumption) ?_ ?_
        rotate_left
        · (intro wS hSw; (try dsimp only at hSw); go_simp; try with_reducible rfl)
        (try simp only [Act.put, List.setIfInBounds_toArray, List.set_cons_zero, List.set_cons_succ])
        have hB5 := h5.box.of_block (show w6.heap[B]? = W5.heap[B]? from (hgrow6.block B (Nat.lt_of_lt_of_le hB5l (by have := bA.size; exact this)) (fun e => hnB e.symm)).trans (bA.block B hB5l))
        have q4 := hB5.cell (show 4 < 5 by omega)
        have qf := hB5.frozen 4
        have kf : ∀ k, k < W5.heap.size → k ≠ B → w.heap.size ≤ k → (w6.setCell ⟨B, 4, none⟩ (.slice (some ⟨gg, 0, none⟩) (m.h.length + 1) cap5)).heap[k]? = W5.heap[k]? := fun k h1 h2 h3 => (Below.heap_setCell _ _ _ _ h2).trans ((hgrow6.block k (Nat.lt_of_lt_of_le h1 (by have := bA.size; exact this)) (fun e => by have := hvl k e.symm; omega)).trans (bA.block k h1))
        obtain ⟨P7, bP7⟩ := h5.pushEv (x := ⟨4, tx, 0, 0, 0, m.c + 1⟩) bA hgrow6 hown6 (by rcases hat6 with e | e; exact .inl e; exact .inr (by omega))
        have hz7 : W5.heap.size ≤ (w6.setCell ⟨B, 4, none⟩ (.slice (some ⟨gg, 0, none⟩) (m.h.length + 1) cap5)).heap.size := bP7.size
        have hOS7 := hOS5.keep (fun k h1 h2 => kf k h2 (by omega) (by omega)) hz7
        have hV7 := cell_same (kf V (cell_lt hV5) (by omega) (by omega)) hV5
        have hVl := cell_lt hV5
        refine wpAnyH_done (by kernel_rfl) ?_ _
        refine lastL (n := 16) rfl rfl ?_
        go_simp
        have b7 := b5.trans bP7
        clear hHeld2 q4 qf hB5 k5 hnB hlt6 hat6 hgrow6 hown6 hXA bA bD hbt hI hz0 hz1 hz2 c1 c4 h5 b5 bP7 hOS5 hV5 u5 kf
        generalize w6.setCell ⟨B, 4, none⟩ (.slice (some ⟨gg, 0, none⟩) (m.h.length + 1) cap5) = W7 at *
        go_wp2_with fail
        refine (l2drop_any base B s0 s1 _ _ _ _ wv i _ P7 hxl hil).mono ?_
        rintro e w8 ⟨rfl, hb8, kf8, vt8, P8⟩
        have b8 := b7.trans hb8
        have hz8 := hb8.size
        have kg : ∀ k, k < W7.heap.size → w.heap.size ≤ k → w8.heap[k]? = W7.heap[k]? := fun k h1 h2 => kf8 k h1 (by omega)
        have hOS8 := hOS7.keep (fun k h1 h2 => kg k h2 (by omega)) hz8
        have hV8 := cell_same (kg V (by omega) (by omega)) hV7
        clear P7 hb8 kf8 kg hOS7 hV7 b7
        have hln8 := len_erase m.x hil
        have hn8 : SmallM' ({ { { m with c := m.c + 1 } with h := m.h ++ [(⟨4, tx, 0, 0, 0, m.c + 1⟩ : Ed)] } with x := m.x.eraseIdx i } : Md) := ⟨hn.s, by show (m.x.eraseIdx i).length ≤ _; omega, fun j hj => by
          have hj' : j < m.x.length - 1 := by rw [← hln8]; exact hj
          show (tAt (m.x.eraseIdx i) j).w.length ≤ _
          rw [tAt_erase]
          exact hn.w _ (skip_lt hil hj'), by
          show (m.h ++ [_]).length ≤ _
          have := HE.out
          simp only [List.length_append, List.length_cons, List.length_nil]
          omega⟩
        have hM8 := P8.own.mat hn8
        obtain ⟨a2', c2', hv2⟩ := owns_sliceM P8.own.x
        subst hv2
        have HOld : ∀ W, Below w8.heap.size w8 W → Calls Tryz.prog 90 #[.pointer (some ⟨B, 0, none⟩)] W fun e w' => e = .returned (.int .i64 (oldS (m.c + 1) (m.x.eraseIdx i) (m.x.eraseIdx i).length)) ∧ w' = W := fun W hW => l2mark_any B _ _ _ _ W (P8.stays hW).mbox (hM8.x.stays hW)
        obtain ⟨q0, f0⟩ := P8.cell (j := 0) (by omega)
        obtain ⟨q1, _⟩ := P8.cell (j := 1) (by omega)
        obtain ⟨q2, _⟩ := P8.cell (j := 2) (by omega)
        obtain ⟨q3, _⟩ := P8.cell (j := 3) (by omega)
        obtain ⟨q4, _⟩ := P8.cell (j := 4) (by omega)
        simp only [bxf] at q0 q1 q2 q3 q4
        generalize hold : oldS (m.c + 1) (m.x.eraseIdx i) (m.x.eraseIdx i).length = old at *
        have HOL : Hid (oldS (m.c + 1) (m.x.eraseIdx i) (m.x.eraseIdx i).length = old) := hold
        clear hold hM8 hn8 hln8
        have TA : ∀ x, Below w8.heap.size w8 x → x.cell? ⟨V, 0, none⟩ = some (.slice sa sn sc) ∧ x.cell? ⟨B, 0, none⟩ = some (.slice a1 m.s.length cap1) ∧ x.cell? ⟨B, 1, none⟩ = some (.int .i64 (m.c + 1)) ∧ x.cell? ⟨B, 2, none⟩ = some (.int .i64 m.n) ∧ x.cell? ⟨B, 3, none⟩ = some (.slice a2' (m.x.eraseIdx i).length c2') ∧ x.cell? ⟨B, 4, none⟩ = some (.slice (some ⟨gg, 0, none⟩) (m.h.length + 1) cap5) := fun x hx => ⟨cell_stays hx hV8, cell_stays hx q0, cell_stays hx q1, cell_stays hx q2, cell_stays hx q3, cell_stays hx q4⟩
        have t0 : Below w8.heap.size w8 w8.drew := (Below.refl _ _).drew
        go_wp2_with fail
        refine region_last (fun x => x.cell? ⟨V, 0, none⟩ = some (.slice sa sn sc) ∧ x.cell? ⟨B, 0, none⟩ = some (.slice a1 m.s.length cap1) ∧ x.cell? ⟨B, 1, none⟩ = some (.int .i64 (m.c + 1)) ∧ x.cell? ⟨B, 2, none⟩ = some (.int .i64 m.n) ∧ x.cell? ⟨B, 3, none⟩ = some (.slice a2' (m.x.eraseIdx i).length c2') ∧ x.cell? ⟨B, 4, none⟩ = some (.slice (some ⟨gg, 0, none⟩) (m.h.length + 1) cap5)) (by kernel_rfl) (by kernel_rfl) (by kernel_rfl) (TA _ t0) (fun hHeld0 => ?_)
        simp only [List.dropLast, List.length_cons, List.length_nil, Nat.reduceAdd]
        refine takeL (i := 0) (v := ?_) rfl (by kernel_rfl) (by kernel_rfl) (by kernel_rfl) (fun _ _ _ h => h) rfl (by assumption) ?_ ?_
        rotate_left
        · (intro wS hSw; (try dsimp only at hSw); go_simp; try with_reducible rfl)
        (try simp only [Act.put, List.setIfInBounds_toArray, List.set_cons_zero, List.set_cons_succ])
        refine takeL (i := 1) (v := ?_) rfl (by kernel_rfl) (by kernel_rfl) (by kernel_rfl) (fun _ _ _ h => h) rfl (by assumption) ?_ ?_
        rotate_left
        · (intro wS hSw; (try dsimp only at hSw); go_simp; try with_reducible rfl)
        (try simp only [Act.put, List.setIfInBounds_toArray, List.set_cons_zero, List.set_cons_succ])
        refine takeL (i := 2) (v := ?_) rfl (by kernel_rfl) (by kernel_rfl) (by kernel_rfl) (fun _ _ _ h => h) rfl (by assumption) ?_ ?_
        rotate_left
        · (intro wS hSw; (try dsimp only at hSw); go_simp; try with_reducible rfl)
        (try simp only [Act.put, List.setIfInBounds_toArray, List.set_cons_zero, List.set_cons_succ])
        refine stepL (i := 3) rfl (by kernel_rfl) (fun K hK => ?_)
        rw [if_pos (by rfl)]
        go_simp
        refine (HOld _ t0).mono ?_
        rintro e w9 ⟨rfl, rfl⟩
        have t9 := t0
        refine hK.out _ _ (TA _ t9) (fun hHeld1 => ?_)
        clear hK K hHeld0
        (try simp only [Act.put, List.setIfInBounds_toArray, List.set_cons_zero, List.set_cons_succ])
        refine stepL (i := 4) rfl (by kernel_rfl) (fun K hK => ?_)
        rw [if_pos (by rfl)]
        go_simp
        refine (specPrune_own (.slice sa sn sc) o1 old _ ((hOS8.stays t9).chains hsm) hsm).mono ?_
        rintro e w10 ⟨v', o2, rfl, hPA, hO10, hb10⟩
        have t10 := t9.trans (hb10.mono t9.size)
        obtain ⟨pa, pn, pc, rfl⟩ := hO10.form
        refine hK.out _ _ (TA _ t10) (fun hHeld2 => ?_)
        clear hK K hHeld1
        (try simp only [Act.put, List.setIfInBounds_toArray, List.set_cons_zero, List.set_cons_succ])
        refine takeL (i := 5) (v := ?_) rfl (by kernel_rfl) (by kernel_rfl) (by kernel_rfl) (fun _ _ _ h => h) rfl (by assumption) ?_ ?_
        rotate_left
        · (intro wS hSw; (try dsimp only at hSw); go_simp; try with_reducible rfl)
        (try simp only [Act.put, List.setIfInBounds_toArray, List.set_cons_zero, List.set_cons_succ])
        refine takeL (i := 6) (v := ?_) rfl (by kernel_rfl) (by kernel_rfl) (by kernel_rfl) (fun _ _ _ h => h) rfl (by assumption) ?_ ?_
        rotate_left
        · (intro wS hSw; (try dsimp only at hSw); go_simp; try with_reducible rfl)
        (try simp only [Act.put, List.setIfInBounds_toArray, List.set_cons_zero, List.set_cons_succ])
        have hB10 := P8.box.of_block (t10.block B P8.box.lt)
        have r0 := hB10.cell (show 0 < 5 by omega)
        have rf := hB10.frozen 0
        obtain ⟨P11, bP11⟩ := P8.setS t10 hO10 (by exact t9.size) (by exact hb10.size)
        refine wpAnyH_done (by kernel_rfl) ?_ _
        refine lastL (n := 7) rfl rfl ?_
        go_simp
        have b11 := b8.trans bP11
        have HP : Hid (PAns o1 old o2) := hPA
        clear hHeld2 r0 rf hB10 hPA hO10 hb10 t10 t9 t0 TA q0 q1 q2 q3 q4 f0 HOld P8 b8 bP11 hOS8 hV8
        go_wp2
        go_ret
        exact ⟨b11, cmM m tx i o2, 0, .inl ⟨HO.out, HE.out, i, o1, o2, HI.out, HL.out, HA.out, by rw [HOL.out]; exact HP.out, rfl, rfl⟩, rfl, .inl ⟨rfl, _, _, _, _, _, _, P11⟩⟩

theorem l2commit_in (base B s0 s1 : Nat) (vs vt ve : Value) (m : Md) (wv : Nat → Value) (tx : Int) (i : Nat) (w : World) (h : PtrM base w B s0 s1 vs vt ve m wv) (hn : SmallM' m) (hok : mgrOk m) (hi : IsTx m tx i) (hwf : WfM m) :
    Calls Tryz.prog 51 #[.pointer (some ⟨B, 0, none⟩), .int .i64 (i : Int)] w fun e w' => Below base w w' ∧ ∃ x code, RC m x tx code ∧ e = .returned (.int .i64 code) ∧ ((code = 0 ∧ ∃ s0 s1 vs vt ve wv, PtrM base w' B s0 s1 vs vt ve x wv) ∨ (code ≠ 0 ∧ x = md0)) := l2commit_p base B s0 s1 vs vt ve m wv tx i w h hn hok hi hwf
end Go.Proofs.YtmecbppblbmchaaGreatDoor
