import Derived.Test.YtmecbppblbmchaaGreatDoorReadPi
import Derived.Test.YtmecbppblbmchaaGreatDoorM5
import Derived.Test.YtmecbppblbmchaaGreatDoorM3
/- The program's readRow, on a state behind a pointer. -/
namespace Go.Proofs.YtmecbppblbmchaaGreatDoor
open Go.ChangeShapes Go.WideShapes Go.ChangeAt Go.RowKit Go.Sort
set_option linter.unusedVariables false
set_option maxRecDepth 100000
attribute [local go_sem ↓] Go.wp_at_zero Go.wp_at_succ

/-- What transaction i reads of (t, r): its value, and the hour, or -1. -/
def RdIs (m : Md) (t r : Int) (i : Nat) (p : Int × Int) : Prop :=
  (∃ j, AtK (tAt m.x i).w t r j ∧ p = ((rAt (tAt m.x i).w j).v, -1)) ∨ ((∀ j, ¬ AtK (tAt m.x i).w t r j) ∧ p = readP m.s t r (tAt m.x i).s)
/-- The state behind. -/
def rdM (m : Md) (tx t r : Int) (p : Int × Int) : Md := { m with h := m.h ++ [⟨2, tx, t, r, p.1, p.2⟩] }

theorem build_evR (x t r v a : Int) (w : World) : (Instr.build 101 #[(0, .int .i64 2), (1, .int .i64 x), (2, .agg #[.int .i64 t, .int .i64 r]), (3, .int .i64 v), (4, .int .i64 a)]).run Tryz.prog w = .ok (.agg #[.int .i64 2, .int .i64 x, .int .i64 t, .int .i64 r, .int .i64 v, .int .i64 a]) w := by kernel_rfl

set_option maxHeartbeats 8000000 in
theorem readRow_any (base B s0 s1 : Nat) (vs vt ve : Value) (m : Md) (wv : Nat → Value) (tx t r : Int) (w : World) (h : PtrM base w B s0 s1 vs vt ve m wv) (hn : SmallM' m) (hwf : WfCh m.s) (wt : wf t) (wr : wf r) :
    Calls Tryz.prog 48 #[.pointer (some ⟨B, 0, none⟩), .int .i64 tx, .agg #[.int .i64 t, .int .i64 r]] w fun e w' => Below base w w' ∧
      ((mgrOk m ∧ tabB t = true ∧ m.h.length ≤ 2998 ∧ ∃ i p ve', IsTx m tx i ∧ RdIs m t r i p ∧ e = .returned (.tuple #[.int .i64 p.1, .nilIface]) ∧ PtrM base w' B s0 s1 vs vt ve' (rdM m tx t r p) wv) ∨
       ((¬ mgrOk m ∨ NoTx m tx ∨ ¬ tabB t = true) ∧ e = .returned (.tuple #[.int .i64 0, refE 1])) ∨
       (mgrOk m ∧ (∃ i, IsTx m tx i) ∧ tabB t = true ∧ ¬ m.h.length ≤ 2998 ∧ e = .returned (.tuple #[.int .i64 0, refE 2]))) := by
  have hM := h.own.mat hn
  obtain ⟨a1, cap1, hv1⟩ : ∃ a cap, vs = .slice a m.s.length cap := by obtain ⟨a, cap, h1, _⟩ := hM.s; exact ⟨a, cap, h1⟩
  obtain ⟨a2, cap2, hv2⟩ : ∃ a cap, vt = .slice a m.x.length cap := by obtain ⟨a, cap, h1, _⟩ := hM.x; exact ⟨a, cap, h1⟩
  obtain ⟨a3, cap3, hv3⟩ : ∃ a cap, ve = .slice a m.h.length cap := by obtain ⟨a, cap, h1, _⟩ := hM.h; exact ⟨a, cap, h1⟩
  subst hv1 hv2 hv3
  have hbase := h.base
  have hBl := h.box.lt
  have hhl := hn.h
  have hsl := hn.s.1
  have hnK : (Value.slice a3 m.h.length cap3).ownBlock ≠ some w.heap.size := fun e => by have := (owns_ltM h.own.h e).2; omega
  have bK : Below w.heap.size w (w.alloc (Obj.cells #[Value.int IntKind.i64 t, Value.int IntKind.i64 r] 46)) := (Below.refl _ _).alloc (Nat.le_refl _) _
  have k0 : (w.alloc (Obj.cells #[Value.int IntKind.i64 t, Value.int IntKind.i64 r] 46)).cell? ⟨w.heap.size, 0, none⟩ = some (.int .i64 t) := by simp [go_sem]
  have k1 : (w.alloc (Obj.cells #[Value.int IntKind.i64 t, Value.int IntKind.i64 r] 46)).cell? ⟨w.heap.size, 1, none⟩ = some (.int .i64 r) := by simp [go_sem]
  have hK := h.stays bK
  have hMK := hM.stays bK
  go_enter Tryz.func48, Tryz.ntmps48
  go_wp2_with fail
  generalize w.alloc (Obj.cells #[Value.int IntKind.i64 t, Value.int IntKind.i64 r] 46) = WK at *
  refine (stepping_any B _ a2 cap2 _ m tx t r _ hK.mbox hMK (by omega)).mono ?_
  rintro e w1 ⟨hU, hb1⟩
  have b1w := bK.trans (hb1.mono bK.size)
  have b1 : Below base w w1 := b1w.mono (by omega)
  have h1 := h.stays b1w
  have hM1 := hM.stays b1w
  have y0 := cell_stays hb1 k0
  have y1 := cell_stays hb1 k1
  clear bK k0 k1 hK hMK hb1 hM
  rcases hU with ⟨hok, ht, hh, i, bt, off, hi, rfl, rfl⟩ | ⟨hno, rfl⟩ | ⟨hok, hx, ht, hh, rfl⟩
  · have hup := mgr_up hok hi.1
    have hil := hi.1
    have hwl := hn.w i hil
    have HO : Hid (mgrOk m) := hok
    have HI : Hid (IsTx m tx i) := hi
    have HT : Hid (tabB t = true) := ht
    have HH : Hid (m.h.length ≤ 2998) := hh
    clear hok hi ht
    obtain ⟨a', c', e', hmx, hcx⟩ := hM1.x
    injection e' with e1 e2 e3
    subst e1 e3
    clear e2 hmx
    obtain ⟨bt', off', e', _, _, hcc⟩ := hcx (by omega)
    injection e' with e'
    injection e' with e1 e2 _
    subst e1 e2
    obtain ⟨c0, c1, wa, wc, c2, hW⟩ := hcc i hil
    clear hcc hcx c0
    obtain ⟨x0, x1, x2, x3, x4⟩ := h1.mbox
    clear x1 x2 x3
    obtain ⟨P, hP⟩ : ∃ P, readP m.s t r (tAt m.x i).s = P := ⟨_, rfl⟩
    obtain ⟨q, hq⟩ : ∃ q, lowP (tAt m.x i).w t r = q := ⟨_, rfl⟩
    have hlow := lowP_low hup t r
    rw [hq] at hlow
    have HR : ∀ W, Below w1.heap.size w1 W → Calls Tryz.prog 82 #[.agg #[.slice a1 m.s.length cap1], .agg #[.int .i64 t, .int .i64 r], .int .i64 (tAt m.x i).s] W fun e w' => e = .returned (.tuple #[.int .i64 P.1, .int .i64 P.2]) ∧ Below W.heap.size W w' := fun W hW' => by
      have := implReadAt_is _ m.s t r (tAt m.x i).s W (hM1.s.stays hW') hwf wt wr hsl
      rw [hP] at this
      exact this
    have HF : ∀ W, Below w1.heap.size w1 W → Calls Tryz.prog 83 #[.slice wa (tAt m.x i).w.length wc, .agg #[.int .i64 t, .int .i64 r]] W fun e w' => e = .returned (.tuple #[.int .i64 (q : Int), .bool (decide (AtK (tAt m.x i).w t r q))]) ∧ Below W.heap.size W w' := fun W hW' => by
      have := findRow_is _ (tAt m.x i).w t r W (hW.stays hW') hup hwl
      rw [hq] at this
      exact this
    change Hid _ at hP
    change Hid _ at hlow
    clear hq
    have g0 := cell_regrown x0
    have gk0 := cell_regrown y0
    have gk1 := cell_regrown y1
    have gc1 := cell_regrown c1
    go_wp2_with fail
    refine wp_region_quiet_below (by kernel_rfl) (by kernel_rfl) ?_
    repeat (go_big_quiet_step (first | (go_at_call 82; exact Calls.regrown_of (HR _ (below_regrown _ _ _)))))
    refine wpQuiet_nil ?_
    intro w2 hw2
    obtain ⟨⟨dq, osq⟩, hw3⟩ := hw2
    have hb2 : Below _ _ w2 := hw3 ▸ below_regrown _ dq osq
    clear hw3 g0 gk0 gk1 gc1 HR
    have u0 := cell_stays hb2 y0
    have u1 := cell_stays hb2 y1
    have d2 := cell_stays hb2 c2
    have gk0 := cell_regrown u0
    have gk1 := cell_regrown u1
    have gd2 := cell_regrown d2
    go_wp2_with fail
    refine wp_region_quiet_below (by kernel_rfl) (by kernel_rfl) ?_
    repeat (go_big_quiet_step (first | (go_at_call 83; exact Calls.regrown_of (HF _ (hb2.trans ((below_regrown _ _ _).mono hb2.size))))))
    refine wpQuiet_nil ?_
    intro w3 hw3
    obtain ⟨⟨dq, osq⟩, hw4⟩ := hw3
    have hb3 : Below _ _ w3 := hw4 ▸ below_regrown _ dq osq
    clear hw4 gk0 gk1 gd2 HF x0 x4
    have b13 := hb2.trans (hb3.mono hb2.size)
    have t0 := cell_stays hb3 u0
    have t1 := cell_stays hb3 u1
    have d3 := cell_stays hb3 d2
    have b3 := b1.trans (b13.mono (by have := h1.box.lt; omega))
    have h3 := h1.stays b13
    have hW3 := hW.stays b13
    have hz13 := b13.size
    have hz1 := b1w.size
    have hKB : w.heap.size < w1.heap.size := cell_lt y0
    clear u0 u1 d2 y0 y1 c1 c2 hb2 hb3 b1 b1w h1 hM1 hW
    by_cases hat : AtK (tAt m.x i).w t r q
    · have hR : Hid (RdIs m t r i ((rAt (tAt m.x i).w q).v, -1)) := .inl ⟨q, hat, rfl⟩
      have hql := hat.1
      rw [decide_eq_true hat]
      obtain ⟨wa', wc', e', hmw, hcw⟩ := hW3
      injection e' with e1 e2 e3
      subst e1 e3
      clear e2
      obtain ⟨bw, offw, rfl, _, _, hcw2⟩ := hcw (by omega)
      obtain ⟨_, _, c9⟩ := hcw2 q hql
      have q0 : (0 : Int) ≤ (q : Int) := by omega
      have q1 : (q : Int) < ((tAt m.x i).w.length : Int) := by omega
      unfold maxLen at hmw
      clear hat hP hlow hcw hcw2
      go_wp2_with fail
      obtain ⟨c4, _⟩ := h3.cell (j := 4) (by omega)
      simp only [bxf] at c4
      obtain ⟨ti, hI, hz0, hz1', hz2⟩ := info_parts infoEv
      have hzW : base ≤ w3.heap.size := by have := h3.box.lt; omega
      have bD := (Below.refl w3.heap.size w3).drew
      refine region_last (fun x => x.cell? ⟨B, 4, none⟩ = some (.slice a3 m.h.length cap3) ∧ x.cell? ⟨w.heap.size, 0, none⟩ = some (.int .i64 t) ∧ x.cell? ⟨w.heap.size, 1, none⟩ = some (.int .i64 r)) (by kernel_rfl) (by kernel_rfl) (by kernel_rfl) ⟨cell_stays bD c4, cell_stays bD t0, cell_stays bD t1⟩ (fun hHeld0 => ?_)
      simp only [List.dropLast, List.length_cons, List.length_nil, Nat.reduceAdd]
      have hbt := build_evR tx t r ((rAt (tAt m.x i).w q).v) (-1)
      refine takeL (i := 0) (v := ?_) rfl (by kernel_rfl) (by kernel_rfl) (by kernel_rfl) (fun _ _ _ h => h) rfl (by assumption) ?_ ?_
      rotate_left
      · (intro wS hSw; (try dsimp only at hSw); go_simp; try with_reducible rfl)
      (try simp only [Act.put, List.setIfInBounds_toArray, List.set_cons_zero, List.set_cons_succ])
      refine takeL (i := 1) (v := ?_) rfl (by kernel_rfl) (by kernel_rfl) (by kernel_rfl) (fun _ _ _ h => h) rfl (by assumption) ?_ ?_
      rotate_left
      · (intro wS hSw; (try dsimp only at hSw); go_simp; try with_reducible rfl)
      (try simp only [Act.put, List.setIfInBounds_toArray, List.set_cons_zero, List.set_cons_succ])
      refine takeL (i := 2) (v := ?_) rfl (by kernel_rfl) (by kernel_rfl) (by kernel_rfl) (fun _ _ _ h => h) rfl (by assumption) ?_ ?_
      rotate_left
      · (intro wS hSw; (try dsimp only at hSw); go_simp; try with_reducible rfl)
      (try simp only [Act.put, List.setIfInBounds_toArray, List.set_cons_zero, List.set_cons_succ])
      refine takeL (i := 3) (v := ?_) rfl (by kernel_rfl) (by kernel_rfl) (by kernel_rfl) (fun _ _ _ h => h) rfl (by assumption) ?_ ?_
      rotate_left
      · (intro wS hSw; (try dsimp only at hSw); go_simp; try with_reducible rfl)
      (try simp only [Act.put, List.setIfInBounds_toArray, List.set_cons_zero, List.set_cons_succ])
      refine takeL (i := 4) (v := ?_) rfl (by kernel_rfl) (by kernel_rfl) (by kernel_rfl) (fun _ _ _ h => h) rfl (by assumption) ?_ ?_
      rotate_left
      · (intro wS hSw; (try dsimp only at hSw); go_simp; try with_reducible rfl)
      (try simp only [Act.put, List.setIfInBounds_toArray, List.set_cons_zero, List.set_cons_succ])
      refine takeL (i := 5) (v := ?_) rfl (by kernel_rfl) (by kernel_rfl) (by kernel_rfl) (fun _ _ _ h => h) rfl (by assumption) ?_ ?_
      rotate_left
      · (intro wS hSw; (try dsimp only at hSw); go_simp; try with_reducible rfl)
      (try simp only [Act.put, List.setIfInBounds_toArray, List.set_cons_zero, List.set_cons_succ])
      refine takeL (i := 6) (v := ?_) rfl (by kernel_rfl) (by kernel_rfl) (by kernel_rfl) (fun _ _ _ h => h) rfl (by assumption) ?_ ?_
      rotate_left
      · (intro wS hSw; (try dsimp only at hSw); go_simp; try with_reducible rfl)
      (try simp only [Act.put, List.setIfInBounds_toArray, List.set_cons_zero, List.set_cons_succ])
      refine takeL (i := 7) (v := ?_) rfl (by kernel_rfl) (by kernel_rfl) (by kernel_rfl) (fun _ _ _ h => h) rfl (by assumption) ?_ ?_
      rotate_left
      · (intro wS hSw; (try dsimp only at hSw); go_simp; try with_reducible rfl)
      (try simp only [Act.put, List.setIfInBounds_toArray, List.set_cons_zero, List.set_cons_succ])
      refine takeL (i := 8) (v := ?_) rfl (by kernel_rfl) (by kernel_rfl) (by kernel_rfl) (fun _ _ _ h => h) rfl (by assumption) ?_ ?_
      rotate_left
      · (intro wS hSw; (try dsimp only at hSw); go_simp; try with_reducible rfl)
      (try simp only [Act.put, List.setIfInBounds_toArray, List.set_cons_zero, List.set_cons_succ])
      refine takeL (i := 9) (v := ?_) rfl (by kernel_rfl) (by kernel_rfl) (by kernel_rfl) (fun _ _ _ h => h) rfl (by assumption) ?_ ?_
      rotate_left
      · (intro wS hSw; (try dsimp only at hSw); go_simp; try with_reducible rfl)
      (try simp only [Act.put, List.setIfInBounds_toArray, List.set_cons_zero, List.set_cons_succ])
      refine stepL (i := 10) rfl (by kernel_rfl) (fun K hK => ?_)
      rw [if_pos (by rfl)]
      go_simp
      have bA := bD.alloc (by exact Nat.le_refl _) (Obj.cells #[.int .i64 2, .int .i64 tx, .int .i64 t, .int .i64 r, .int .i64 ((rAt (tAt m.x i).w q).v), .int .i64 (-1)] 101)
      refine hK.out _ _ ⟨cell_stays bA c4, cell_stays bA t0, cell_stays bA t1⟩ (fun hHeld1 => ?_)
      clear hK K hHeld0
      (try simp only [Act.put, List.setIfInBounds_toArray, List.set_cons_zero, List.set_cons_succ])
      refine stepL (i := 11) rfl (by kernel_rfl) (fun K hK => ?_)
      have hXA := owns_keepM h3.own.h fun g hg hl => bA.block g hl
      refine step_append_lies _ (by rfl) _ _ _ (by rfl) base 101 ti _ 6 48 Tryz.underlying34 hI hz0 hz1' hz2 rfl (by omega) (.slice a3 m.h.length cap3) m.h.length (hexa m.h) (by rfl) hXA ⟨w3.heap.size, 0, none⟩ 1 1 [.int .i64 2, .int .i64 tx, .int .i64 t, .int .i64 r, .int .i64 ((rAt (tAt m.x i).w q).v), .int .i64 (-1)] (by rfl) (by rfl) (newsM w3.drew _ _) (by intro u hu; simp at hu; rcases hu with rfl | rfl | rfl | rfl | rfl | rfl <;> rfl) (by omega) (by unfold maxLen; omega) (by omega) (by simp; omega) (w3.heap.size + 1) (by simp) ?_
      intro gg cap5 w5 hown5 hgrow5 hat5 hlt5
      have hnB := h3.apart 1 (by omega)
      have k5 : ∀ b, b < w3.heap.size → (Value.slice a3 m.h.length cap3).ownBlock ≠ some b → ∀ (o : Nat) (u : Value), w3.cell? ⟨b, o, none⟩ = some u → w5.cell? ⟨b, o, none⟩ = some u := fun b hb hne o u hu => cell_same (hgrow5.block b (Nat.lt_of_lt_of_le hb (by have := bA.size; exact this)) (fun e => hne e.symm)) (cell_stays bA hu)
      refine hK.out _ _ ⟨k5 B h3.box.lt hnB _ _ c4, k5 _ (cell_lt t0) hnK _ _ t0, k5 _ (cell_lt t0) hnK _ _ t1⟩ (fun hHeld2 => ?_)
      clear hK K hHeld1
      (try simp only [Act.put, List.setIfInBounds_toArray, List.set_cons_zero, List.set_cons_succ])
      refine takeL (i := 12) (v := ?_) rfl (by kernel_rfl) (by kernel_rfl) (by kernel_rfl) (fun _ _ _ h => h) rfl (by assumption) ?_ ?_
      rotate_left
      · (intro wS hSw; (try dsimp only at hSw); go_simp; try with_reducible rfl)
      (try simp only [Act.put, List.setIfInBounds_toArray, List.set_cons_zero, List.set_cons_succ])
      refine takeL (i := 13) (v := ?_) rfl (by kernel_rfl) (by kernel_rfl) (by kernel_rfl) (fun _ _ _ h => h) rfl (by assumption) ?_ ?_
      rotate_left
      · (intro wS hSw; (try dsimp only at hSw); go_simp; try with_reducible rfl)
      (try simp only [Act.put, List.setIfInBounds_toArray, List.set_cons_zero, List.set_cons_succ])
      have hB5 := h3.box.of_block (show w5.heap[B]? = w3.heap[B]? from (hgrow5.block B (Nat.lt_of_lt_of_le h3.box.lt (by have := bA.size; exact this)) (fun e => hnB e.symm)).trans (bA.block B h3.box.lt))
      have q4 := hB5.cell (show 4 < 5 by omega)
      have qf := hB5.frozen 4
      obtain ⟨P7, bP7⟩ := h3.pushEv (x := ⟨2, tx, t, r, (rAt (tAt m.x i).w q).v, -1⟩) bA hgrow5 hown5 (by rcases hat5 with e | e; exact .inl e; exact .inr (by omega))
      refine wpAnyH_done (by kernel_rfl) ?_ _
      refine lastL (n := 14) rfl rfl ?_
      go_simp
      have b7 := b3.trans bP7
      clear hHeld2 q4 qf hB5 k5 hnB hlt5 hat5 hgrow5 hown5 hXA bA bD hbt hI hz0 hz1' hz2 c4 h3 b3 t0 t1
      go_wp2
      go_ret2
      exact ⟨b7, .inl ⟨HO.out, HT.out, HH.out, i, ((rAt (tAt m.x i).w q).v, -1), _, HI.out, hR.out, rfl, P7⟩⟩
    · have hR : Hid (RdIs m t r i (P.1, P.2)) := .inr ⟨fun j hj => hat (by rw [← LowK.at (show LowK (tAt m.x i).w t r q from hlow.out) hup hj]; exact hj), hP.out.symm⟩
      rw [decide_eq_false hat]
      clear hat hP hlow
      go_wp2_with fail
      obtain ⟨c4, _⟩ := h3.cell (j := 4) (by omega)
      simp only [bxf] at c4
      obtain ⟨ti, hI, hz0, hz1', hz2⟩ := info_parts infoEv
      have hzW : base ≤ w3.heap.size := by have := h3.box.lt; omega
      have bD := (Below.refl w3.heap.size w3).drew
      refine region_last (fun x => x.cell? ⟨B, 4, none⟩ = some (.slice a3 m.h.length cap3) ∧ x.cell? ⟨w.heap.size, 0, none⟩ = some (.int .i64 t) ∧ x.cell? ⟨w.heap.size, 1, none⟩ = some (.int .i64 r)) (by kernel_rfl) (by kernel_rfl) (by kernel_rfl) ⟨cell_stays bD c4, cell_stays bD t0, cell_stays bD t1⟩ (fun hHeld0 => ?_)
      simp only [List.dropLast, List.length_cons, List.length_nil, Nat.reduceAdd]
      have hbt := build_evR tx t r (P.1) (P.2)
      refine takeL (i := 0) (v := ?_) rfl (by kernel_rfl) (by kernel_rfl) (by kernel_rfl) (fun _ _ _ h => h) rfl (by assumption) ?_ ?_
      rotate_left
      · (intro wS hSw; (try dsimp only at hSw); go_simp; try with_reducible rfl)
      (try simp only [Act.put, List.setIfInBounds_toArray, List.set_cons_zero, List.set_cons_succ])
      refine takeL (i := 1) (v := ?_) rfl (by kernel_rfl) (by kernel_rfl) (by kernel_rfl) (fun _ _ _ h => h) rfl (by assumption) ?_ ?_
      rotate_left
      · (intro wS hSw; (try dsimp only at hSw); go_simp; try with_reducible rfl)
      (try simp only [Act.put, List.setIfInBounds_toArray, List.set_cons_zero, List.set_cons_succ])
      refine takeL (i := 2) (v := ?_) rfl (by kernel_rfl) (by kernel_rfl) (by kernel_rfl) (fun _ _ _ h => h) rfl (by assumption) ?_ ?_
      rotate_left
      · (intro wS hSw; (try dsimp only at hSw); go_simp; try with_reducible rfl)
      (try simp only [Act.put, List.setIfInBounds_toArray, List.set_cons_zero, List.set_cons_succ])
      refine takeL (i := 3) (v := ?_) rfl (by kernel_rfl) (by kernel_rfl) (by kernel_rfl) (fun _ _ _ h => h) rfl (by assumption) ?_ ?_
      rotate_left
      · (intro wS hSw; (try dsimp only at hSw); go_simp; try with_reducible rfl)
      (try simp only [Act.put, List.setIfInBounds_toArray, List.set_cons_zero, List.set_cons_succ])
      refine takeL (i := 4) (v := ?_) rfl (by kernel_rfl) (by kernel_rfl) (by kernel_rfl) (fun _ _ _ h => h) rfl (by assumption) ?_ ?_
      rotate_left
      · (intro wS hSw; (try dsimp only at hSw); go_simp; try with_reducible rfl)
      (try simp only [Act.put, List.setIfInBounds_toArray, List.set_cons_zero, List.set_cons_succ])
      refine takeL (i := 5) (v := ?_) rfl (by kernel_rfl) (by kernel_rfl) (by kernel_rfl) (fun _ _ _ h => h) rfl (by assumption) ?_ ?_
      rotate_left
      · (intro wS hSw; (try dsimp only at hSw); go_simp; try with_reducible rfl)
      (try simp only [Act.put, List.setIfInBounds_toArray, List.set_cons_zero, List.set_cons_succ])
      refine takeL (i := 6) (v := ?_) rfl (by kernel_rfl) (by kernel_rfl) (by kernel_rfl) (fun _ _ _ h => h) rfl (by assumption) ?_ ?_
      rotate_left
      · (intro wS hSw; (try dsimp only at hSw); go_simp; try with_reducible rfl)
      (try simp only [Act.put, List.setIfInBounds_toArray, List.set_cons_zero, List.set_cons_succ])
      refine takeL (i := 7) (v := ?_) rfl (by kernel_rfl) (by kernel_rfl) (by kernel_rfl) (fun _ _ _ h => h) rfl (by assumption) ?_ ?_
      rotate_left
      · (intro wS hSw; (try dsimp only at hSw); go_simp; try with_reducible rfl)
      (try simp only [Act.put, List.setIfInBounds_toArray, List.set_cons_zero, List.set_cons_succ])
      refine takeL (i := 8) (v := ?_) rfl (by kernel_rfl) (by kernel_rfl) (by kernel_rfl) (fun _ _ _ h => h) rfl (by assumption) ?_ ?_
      rotate_left
      · (intro wS hSw; (try dsimp only at hSw); go_simp; try with_reducible rfl)
      (try simp only [Act.put, List.setIfInBounds_toArray, List.set_cons_zero, List.set_cons_succ])
      refine takeL (i := 9) (v := ?_) rfl (by kernel_rfl) (by kernel_rfl) (by kernel_rfl) (fun _ _ _ h => h) rfl (by assumption) ?_ ?_
      rotate_left
      · (intro wS hSw; (try dsimp only at hSw); go_simp; try with_reducible rfl)
      (try simp only [Act.put, List.setIfInBounds_toArray, List.set_cons_zero, List.set_cons_succ])
      refine stepL (i := 10) rfl (by kernel_rfl) (fun K hK => ?_)
      rw [if_pos (by rfl)]
      go_simp
      have bA := bD.alloc (by exact Nat.le_refl _) (Obj.cells #[.int .i64 2, .int .i64 tx, .int .i64 t, .int .i64 r, .int .i64 (P.1), .int .i64 (P.2)] 101)
      refine hK.out _ _ ⟨cell_stays bA c4, cell_stays bA t0, cell_stays bA t1⟩ (fun hHeld1 => ?_)
      clear hK K hHeld0
      (try simp only [Act.put, List.setIfInBounds_toArray, List.set_cons_zero, List.set_cons_succ])
      refine stepL (i := 11) rfl (by kernel_rfl) (fun K hK => ?_)
      have hXA := owns_keepM h3.own.h fun g hg hl => bA.block g hl
      refine step_append_lies _ (by rfl) _ _ _ (by rfl) base 101 ti _ 6 48 Tryz.underlying34 hI hz0 hz1' hz2 rfl (by omega) (.slice a3 m.h.length cap3) m.h.length (hexa m.h) (by rfl) hXA ⟨w3.heap.size, 0, none⟩ 1 1 [.int .i64 2, .int .i64 tx, .int .i64 t, .int .i64 r, .int .i64 (P.1), .int .i64 (P.2)] (by rfl) (by rfl) (newsM w3.drew _ _) (by intro u hu; simp at hu; rcases hu with rfl | rfl | rfl | rfl | rfl | rfl <;> rfl) (by omega) (by unfold maxLen; omega) (by omega) (by simp; omega) (w3.heap.size + 1) (by simp) ?_
      intro gg cap5 w5 hown5 hgrow5 hat5 hlt5
      have hnB := h3.apart 1 (by omega)
      have k5 : ∀ b, b < w3.heap.size → (Value.slice a3 m.h.length cap3).ownBlock ≠ some b → ∀ (o : Nat) (u : Value), w3.cell? ⟨b, o, none⟩ = some u → w5.cell? ⟨b, o, none⟩ = some u := fun b hb hne o u hu => cell_same (hgrow5.block b (Nat.lt_of_lt_of_le hb (by have := bA.size; exact this)) (fun e => hne e.symm)) (cell_stays bA hu)
      refine hK.out _ _ ⟨k5 B h3.box.lt hnB _ _ c4, k5 _ (cell_lt t0) hnK _ _ t0, k5 _ (cell_lt t0) hnK _ _ t1⟩ (fun hHeld2 => ?_)
      clear hK K hHeld1
      (try simp only [Act.put, List.setIfInBounds_toArray, List.set_cons_zero, List.set_cons_succ])
      refine takeL (i := 12) (v := ?_) rfl (by kernel_rfl) (by kernel_rfl) (by kernel_rfl) (fun _ _ _ h => h) rfl (by assumption) ?_ ?_
      rotate_left
      · (intro wS hSw; (try dsimp only at hSw); go_simp; try with_reducible rfl)
      (try simp only [Act.put, List.setIfInBounds_toArray, List.set_cons_zero, List.set_cons_succ])
      refine takeL (i := 13) (v := ?_) rfl (by kernel_rfl) (by kernel_rfl) (by kernel_rfl) (fun _ _ _ h => h) rfl (by assumption) ?_ ?_
      rotate_left
      · (intro wS hSw; (try dsimp only at hSw); go_simp; try with_reducible rfl)
      (try simp only [Act.put, List.setIfInBounds_toArray, List.set_cons_zero, List.set_cons_succ])
      have hB5 := h3.box.of_block (show w5.heap[B]? = w3.heap[B]? from (hgrow5.block B (Nat.lt_of_lt_of_le h3.box.lt (by have := bA.size; exact this)) (fun e => hnB e.symm)).trans (bA.block B h3.box.lt))
      have q4 := hB5.cell (show 4 < 5 by omega)
      have qf := hB5.frozen 4
      obtain ⟨P7, bP7⟩ := h3.pushEv (x := ⟨2, tx, t, r, P.1, P.2⟩) bA hgrow5 hown5 (by rcases hat5 with e | e; exact .inl e; exact .inr (by omega))
      refine wpAnyH_done (by kernel_rfl) ?_ _
      refine lastL (n := 14) rfl rfl ?_
      go_simp
      have b7 := b3.trans bP7
      clear hHeld2 q4 qf hB5 k5 hnB hlt5 hat5 hgrow5 hown5 hXA bA bD hbt hI hz0 hz1' hz2 c4 h3 b3 t0 t1
      go_wp2
      go_ret2
      exact ⟨b7, .inl ⟨HO.out, HT.out, HH.out, i, (P.1, P.2), _, HI.out, hR.out, rfl, P7⟩⟩
  · have HN : Hid (¬ mgrOk m ∨ NoTx m tx ∨ ¬ tabB t = true) := hno
    clear hno
    simp only [refE]
    go_wp2
    go_ret2
    exact ⟨b1, .inr (.inl ⟨HN.out, rfl⟩)⟩
  · have HN : Hid (mgrOk m ∧ (∃ i, IsTx m tx i) ∧ tabB t = true ∧ ¬ m.h.length ≤ 2998) := ⟨hok, hx, ht, hh⟩
    clear hok hx ht hh
    simp only [refE]
    go_wp2
    go_ret2
    exact ⟨b1, .inr (.inr ⟨HN.out.1, HN.out.2.1, HN.out.2.2.1, HN.out.2.2.2, rfl⟩)⟩
end Go.Proofs.YtmecbppblbmchaaGreatDoor
