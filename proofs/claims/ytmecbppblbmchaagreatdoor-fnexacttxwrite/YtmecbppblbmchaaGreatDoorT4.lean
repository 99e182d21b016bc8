import Derived.Test.YtmecbppblbmchaaGreatDoorT1
import Derived.Test.YtmecbppblbmchaaGreatDoorAppSeq
import Derived.Test.YtmecbppblbmchaaGreatDoorReadPi
import Derived.Test.YtmecbppblbmchaaGreatDoorM5
import Derived.Test.YtmecbppblbmchaaGreatDoorM3
import Derived.Test.YtmecbppblbmchaaGreatDoorRead
/- The program's readRow, on a state behind a pointer. -/
namespace Go.Proofs.YtmecbppblbmchaaGreatDoor
open Go.ChangeShapes Go.WideShapes Go.ChangeAt Go.RowKit Go.Sort
set_option linter.unusedVariables false
set_option maxRecDepth 100000
attribute [local go_sem ↓] Go.wp_at_zero Go.wp_at_succ

/-- What transaction i reads of (t, r): its value, and the hour, or -1. -/
def RdIs (m : Md) (t r : Int) (i : Nat) (p : Int × Int) : Prop :=
  (∃ j, AtK (tAt m.x i).w t r j ∧ p = ((rAt (tAt m.x i).w j).v, -1)) ∨ ((∀ j, ¬ AtK (tAt m.x i).w t r j) ∧ p = readP m.s t r (tAt m.x i).s)
/-- The state behind. -/
def rdM (m : Md) (tx t r : Int) (p : Int × Int) : Md := { m with h := m.h ++ [⟨2, tx, t, r, p.1, p.2⟩] }

theorem build_evR (x t r v a : Int) (w : World) : (Instr.build 101 #[(0, .int .i64 2), (1, .int .i64 x), (2, .agg #[.int .i64 t, .int .i64 r]), (3, .int .i64 v), (4, .int .i64 a)]).run Tryz.prog w = .ok (.agg #[.int .i64 2, .int .i64 x, .int .i64 t, .int .i64 r, .int .i64 v, .int .i64 a]) w := by kernel_rfl

set_option maxHeartbeats 8000000 in
theorem readRow_any (base B s0 s1 : Nat) (vs vt ve : Value) (m : Md) (wv : Nat → Value) (tx t r : Int) (w : World) (h : PtrM base w B s0 s1 vs vt ve m wv) (hn : SmallM' m) (hwf : WfCh m.s) (wt : wf t) (wr : wf r) :
    Calls Tryz.prog 48 #[.pointer (some ⟨B, 0, none⟩), .int .i64 tx, .agg #[.int .i64 t, .int .i64 r]] w fun e w' => Below base w w' ∧
      ((mgrOk m ∧ tabB t = true ∧ m.h.length ≤ 2998 ∧ ∃ i p ve', IsTx m tx i ∧ RdIs m t r i p ∧ e = .returned (.tuple #[.int .i64 p.1, .nilIface]) ∧ PtrM base w' B s0 s1 vs vt ve' (rdM m tx t r p) wv) ∨
       ((¬ mgrOk m ∨ NoTx m tx ∨ ¬ tabB t = true) ∧ e = .returned (.tuple #[.int .i64 0, refE 1])) ∨
       (mgrOk m ∧ (∃ i, IsTx m tx i) ∧ tabB t = true ∧ ¬ m.h.length ≤ 2998 ∧ e = .returned (.tuple #[.int .i64 0, refE 2]))) := by
  have hM := h.own.mat hn
  obtain ⟨a1, cap1, hv1⟩ : ∃ a cap, vs = .slice a m.s.length cap := by obtain ⟨a, cap, h1, _⟩ := hM.s; exact ⟨a, cap, h1⟩
  obtain ⟨a2, cap2, hv2⟩ : ∃ a cap, vt = .slice a m.x.length cap := by obtain ⟨a, cap, h1, _⟩ := hM.x; exact ⟨a, cap, h1⟩
  obtain ⟨a3, cap3, hv3⟩ : ∃ a cap, ve = .slice a m.h.length cap := by obtain ⟨a, cap, h1, _⟩ := hM.h; exact ⟨a, cap, h1⟩
  subst hv1 hv2 hv3
  have hbase := h.base
  have hBl := h.box.lt
  have hhl := hn.h
  have hsl := hn.s.1
  have hnK : (Value.slice a3 m.h.length cap3).ownBlock ≠ some w.heap.size := fun e => by have := (owns_ltM h.own.h e).2; omega
  have bK : Below w.heap.size w (w.alloc (Obj.cells #[Value.int IntKind.i64 t, Value.int IntKind.i64 r] 46)) := (Below.refl _ _).alloc (Nat.le_refl _) _
  have k0 : (w.alloc (Obj.cells #[Value.int IntKind.i64 t, Value.int IntKind.i64 r] 46)).cell? ⟨w.heap.size, 0, none⟩ = some (.int .i64 t) := by simp [go_sem]
  have k1 : (w.alloc (Obj.cells #[Value.int IntKind.i64 t, Value.int IntKind.i64 r] 46)).cell? ⟨w.heap.size, 1, none⟩ = some (.int .i64 r) := by simp [go_sem]
  have hK := h.stays bK
  have hMK := hM.stays bK
  go_enter Tryz.func48, Tryz.ntmps48
  go_wp2_with fail
  generalize w.alloc (Obj.cells #[Value.int IntKind.i64 t, Value.int IntKind.i64 r] 46) = WK at *
  refine (stepping_any B _ a2 cap2 _ m tx t r _ hK.mbox hMK (by omega)).mono ?_
  rintro e w1 ⟨hU, hb1⟩
  have b1w := bK.trans (hb1.mono bK.size)
  have b1 : Below base w w1 := b1w.mono (by omega)
  have h1 := h.stays b1w
  have hM1 := hM.stays b1w
  have y0 := cell_stays hb1 k0
  have y1 := cell_stays hb1 k1
  clear bK k0 k1 hK hMK hb1 hM
  rcases hU with ⟨hok, ht, hh, i, bt, off, hi, rfl, rfl⟩ | ⟨hno, rfl⟩ | ⟨hok, hx, ht, hh, rfl⟩
  · have hup := mgr_up hok hi.1
    have hil := hi.1
    have hwl := hn.w i hil
    have HO : Hid (mgrOk m) := hok
    have HI : Hid (IsTx m tx i) := hi
    have HT : Hid (tabB t = true) := ht
    have HH : Hid (m.h.length ≤ 2998) := hh
    clear hok hi ht
    obtain ⟨a', c', e', hmx, hcx⟩ := hM1.x
    injection e' with e1 e2 e3
    subst e1 e3
    clear e2 hmx
    obtain ⟨bt', off', e', _, _, hcc⟩ := hcx (by omega)
    injection e' with e'
    injection e' with e1 e2 _
    subst e1 e2
    obtain ⟨c0, c1, wa, wc, c2, hW⟩ := hcc i hil
    clear hcc hcx c0
    obtain ⟨x0, x1, x2, x3, x4⟩ := h1.mbox
    clear x1 x2 x3
    obtain ⟨P, hP⟩ : ∃ P, readP m.s t r (tAt m.x i).s = P := ⟨_, rfl⟩
    obtain ⟨q, hq⟩ : ∃ q, lowP (tAt m.x i).w t r = q := ⟨_, rfl⟩
    have hlow := lowP_low hup t r
    rw [hq] at hlow
    have HR : ∀ W, Below w1.heap.size w1 W → Calls Tryz.prog 82 #[.agg #[.slice a1 m.s.length cap1], .agg #[.int .i64 t, .int .i64 r], .int .i64 (tAt m.x i).s] W fun e w' => e = .returned (.tuple #[.int .i64 P.1, .int .i64 P.2]) ∧ Below W.heap.size W w' := fun W hW' => by
      have := implReadAt_is _ m.s t r (tAt m.x i).s W (hM1.s.stays hW') hwf wt wr hsl
      rw [hP] at this
      exact this
    have HF : ∀ W, Below w1.heap.size w1 W → Calls Tryz.prog 83 #[.slice wa (tAt m.x i).w.length wc, .agg #[.int .i64 t, .int .i64 r]] W fun e w' => e = .returned (.tuple #[.int .i64 (q : Int), .bool (decide (AtK (tAt m.x i).w t r q))]) ∧ Below W.heap.size W w' := fun W hW' => by
      have := findRow_is _ (tAt m.x i).w t r W (hW.stays hW') hup hwl
      rw [hq] at this
      exact this
    change Hid _ at hP
    change Hid _ at hlow
    clear hq
    have g0 := cell_regrown x0
    have gk0 := cell_regrown y0
    have gk1 := cell_regrown y1
    have gc1 := cell_regrown c1
    go_wp2_with fail
    refine wp_region_quiet_below (by kernel_rfl) (by kernel_rfl) ?_
    repeat (go_big_quiet_step (first | (go_at_call 82; exact Calls.regrown_of (HR _ (below_regrown _ _ _)))))
    refine wpQuiet_nil ?_
    intro w2 hw2
    obtain ⟨⟨dq, osq⟩, hw3⟩ := hw2
    have hb2 : Below _ _ w2 := hw3 ▸ below_regrown _ dq osq
    clear hw3 g0 gk0 gk1 gc1 HR
    have u0 := cell_stays hb2 y0
    have u1 := cell_stays hb2 y1
    have d2 := cell_stays hb2 c2
    have gk0 := cell_regrown u0
    have gk1 := cell_regrown u1
    have gd2 := cell_regrown d2
    go_wp2_with fail
    refine wp_region_quiet_below (by kernel_rfl) (by kernel_rfl) ?_
    repeat (go_big_quiet_step (first | (go_at_call 83; exact Calls.regrown_of (HF _ (hb2.trans ((below_regrown _ _ _).mono hb2.size))))))
    refine wpQuiet_nil ?_
    intro w3 hw3
    obtain ⟨⟨dq, osq⟩, hw4⟩ := hw3
    have hb3 : Below _ _ w3 := hw4 ▸ below_regrown _ dq osq
    clear hw4 gk0 gk1 gd2 HF x0 x4
    have b13 := hb2.trans (hb3.mono hb2.size)
    have t0 := cell_stays hb3 u0
    have t1 := cell_stays hb3 u1
    have d3 := cell_stays hb3 d2
    have b3 := b1.trans (b13.mono (by have := h1.box.lt; omega))
    have h3 := h1.stays b13
    have hW3 := hW.stays b13
    have hz13 := b13.size
    have hz1 := b1w.size
    have hKB : w.heap.size < w1.heap.size := cell_lt y0
    clear u0 u1 d2 y0 y1 c1 c2 hb2 hb3 b1 b1w h1 hM1 hW
    by_cases hat : AtK (tAt m.x i).w t r q
    · have hR : Hid (RdIs m t r i ((rAt (tAt m.x i).w q).v, -1)) := .inl ⟨q, hat, rfl⟩
      have hql := hat.1
      rw [decide_eq_true hat]
      obtain ⟨wa', wc', e', hmw, hcw⟩ := hW3
      injection e' with e1 e2 e3
      subst e1 e3
      clear e2
      obtain ⟨bw, offw, rfl, _, _, hcw2⟩ := hcw (by omega)
      obtain ⟨_, _, c9⟩ := hcw2 q hql
      have q0 : (0 : Int) ≤ (q : Int) := by omega
      have q1 : (q : Int) < ((tAt m.x i).w.length : Int) := by omega
      unfold maxLen at hmw
      clear hat hP hlow hcw hcw2
      go_wp2_with fail
      obtain ⟨c4, _⟩ := h3.cell (j := 4) (by omega)
      simp only [bxf] at c4
      obtain ⟨ti, hI, hz0, hz1', hz2⟩ := info_parts infoEv
      have hzW : base ≤ w3.heap.size := by have := h3.box.lt; omega
      have bD := (Below.refl w3.heap.size w3).drew
      refine region_last (fun x => x.cell? ⟨B, 4, none⟩ = some (.slice a3 m.h.length cap3) ∧ x.cell? ⟨w.heap.size, 0, none⟩ = some (.int .i64 t) ∧ x.cell? ⟨w.heap.size, 1, none⟩ = some (.int .i64 r)) (by kernel_rfl) (by kernel_rfl) (by kernel_rfl) ⟨cell_stays bD c4, cell_stays bD t0, cell_stays bD t1⟩ (fun hHeld0 => ?_)
      simp only [List.dropLast, List.length_cons, List.length_nil, Nat.reduceAdd]
      have hbt := build_evR tx t r ((rAt (tAt m.x i).w q).v) (-1)
      refine takeL (i := 0) (v := ?_) rfl (by kernel_rfl) (by kernel_rfl) (by kernel_rfl) (fun _ _ _ h => h) rfl (by assumption) ?_ ?_
      rotate_left
      · (intro wS hSw; (try dsimp only at hSw); go_simp; try with_reducible rfl)
      (try simp only [Act.put, List.setIfInBounds_toArray, List.set_cons_zero, List.set_cons_succ])
      refine takeL (i := 1) (v := ?_) rfl (by kernel_rfl) (by kernel_rfl) (by kernel_rfl) (fun _ _ _ h => h) rfl (by assumption) ?_ ?_
      rotate_left
      · (intro wS hSw; (try dsimp only at hSw); go_simp; try with_reducible rfl)
      (try simp only [Act.put, List.setIfInBounds_toArray, List.set_cons_zero, List.set_cons_succ])
      refine takeL (i := 2) (v := ?_) rfl (by kernel_rfl) (by kernel_rfl) (by kernel_rfl) (fun _ _ _ h => h) rfl (by assumption) ?_ ?_
      rotate_left
      · (intro wS hSw; (try dsimp only at hSw); go_simp; try with_reducible rfl)
      (try simp only [Act.put, List.setIfInBounds_toArray, List.set_cons_zero, List.set_cons_succ])
      refine takeL (i := 3) (v := ?_) rfl (by kernel_rfl) (by kernel_rfl) (by kernel_rfl) (fun _ _ _ h => h) rfl (by assumption) ?_ ?_
      rotate_left
      · (intro wS hSw; (try dsimp only at hSw); go_simp; try with_reducible rfl)
      (try simp only [Act.put, List.setIfInBounds_toArray, List.set_cons_zero, List.set_cons_succ])
      refine takeL (i := 4) (v := ?_) rfl (by kernel_rfl) (by kernel_rfl) (by kernel_rfl) (fun _ _ _ h => h) rfl (by assumption) ?_ ?_
      rotate_left
      · (intro wS hSw; (try dsimp only at hSw); go_simp; try with_reducible rfl)
      (try simp only [Act.put, List.setIfInBounds_toArray, List.set_cons_zero, List.set_cons_succ])
      refine takeL (i := 5) (v := ?_) rfl (by kernel_rfl) (by kernel_rfl) (by kernel_rfl) (fun _ _ _ h => h) rfl (by assumption) ?_ ?_
      rotate_left
      · (intro wS hSw; (try dsimp only at hSw); go_simp; try with_reducible rfl)
      (try simp only [Act.put, List.setIfInBounds_toArray, List.set_cons_zero, List.set_cons_succ])
      refine takeL (i := 6) (v := ?_) rfl (by kernel_rfl) (by kernel_rfl) (by kernel_rfl) (fun _ _ _ h => h) rfl (by assumption) ?_ ?_
      rotate_left
      · (intro wS hSw; (try dsimp only at hSw); go_simp; try with_reducible rfl)
      (try simp only [Act.put, List.setIfInBounds_toArray, List.set_cons_zero, List.set_cons_succ])
      refine takeL (i := 7) (v := ?_) rfl (by kernel_rfl) (by kernel_rfl) (by kernel_rfl) (fun _ _ _ h => h) rfl (by assumption) ?_ ?_
      rotate_left
      · (intro wS hSw; (try dsimp only at hSw); go_simp; try with_reducible rfl)
      (try simp only [Act.put, List.setIfInBounds_toArray, List.set_cons_zero, List.set_cons_succ])
      refine takeL (i := 8) (v := ?_) rfl (by kernel_rfl) (by kernel_rfl) (by kernel_rfl) (fun _ _ _ h => h) rfl (by assumption) ?_ ?_
      rotate_left
      · (intro wS hSw; (try dsimp only at hSw); go_simp; try with_reducible rfl)
      (try simp only [Act.put, List.setIfInBounds_toArray, List.set_cons_zero, List.set_cons_succ])
      refine takeL (i := 9) (v := ?_) rfl (by kernel_rfl) (by kernel_rfl) (by kernel_rfl) (fun _ _ _ h => h) rfl (by assumption) ?_ ?_
      rotate_left
      · (intro wS hSw; (try dsimp only at hSw); go_simp; try with_reducible rfl)
      (try simp only [Act.put, List.setIfInBounds_toArray, List.set_cons_zero, List.set_cons_succ])
      refine stepL (i := 10) rfl (by kernel_rfl) (fun K hK => ?_)
      rw [if_pos (by rfl)]
      go_simp
      have bA := bD.alloc (by exact Nat.le_refl _) (Obj.cells #[.int .i64 2, .int .i64 tx, .int .i64 t, .int .i64 r, .int .i64 ((rAt (tAt m.x i).w q).v), .int .i64 (-1)] 101)
      refine hK.out _ _ ⟨cell_stays bA c4, cell_stays bA t0, cell_stays bA t1⟩ (fun hHeld1 => ?_)
      clear hK K hHeld0
      (try simp only [Act.put, List.setIfInBounds_toArray, List.set_cons_zero, List.set_cons_succ])
      refine stepL (i := 11) rfl (by kernel_rfl) (fun K hK => ?_)
      have hXA := owns_keepM h3.own.h fun g hg hl => bA.block g hl
      refine step_append_lies _ (by rfl) _ _ _ (by rfl) base 101 ti _ 6 48 Tryz.underlying34 hI hz0 hz1' hz2 rfl (by omega) (.slice a3 m.h.length cap3) m.h.length (hexa m.h) (by rfl) hXA ⟨w3.heap.size, 0, none⟩ 1 1 [.int .i64 2, .int .i64 tx, .int .i64 t, .int .i64 r, .int .i64 ((rAt (tAt m.x i).w q).v), .int .i64 (-1)] (by rfl) (by rfl) (newsM w3.drew _ _) (by intro u hu; simp at hu; rcases hu with rfl | rfl | rfl | rfl | rfl | rfl <;> rfl) (by omega) (by unfold maxLen; omega) (by omega) (by simp; omega) (w3.heap.size + 1) (by simp) ?_
      intro gg cap5 w5 hown5 hgrow5 hat5 hlt5
      have hnB := h3.apart 1 (by omega)
      have k5 : ∀ b, b < w3.heap.size → (Value.slice a3 m.h.length cap3).ownBlock ≠ some b → ∀ (o : Nat) (u : Value), w3.cell? ⟨b, o, none⟩ = some u → w5.cell? ⟨b, o, none⟩ = some u := fun b hb hne o u hu => cell_same (hgrow5.block b (Nat.lt_of_lt_of_le hb (by have := bA.size; exact this)) (fun e => hne e.symm)) (cell_stays bA hu)
      refine hK.out _ _ ⟨k5 B h3.box.lt hnB _ _ c4, k5 _ (cell_lt t0) hnK _ _ t0, k5 _ (cell_lt t0) hnK _ _ t1⟩ (fun hHeld2 => ?_)
      clear hK K hHeld1
      (try simp only [Act.put, List.setIfInBounds_toArray, List.set_cons_zero, List.set_cons_succ])
      refine takeL (i := 12) (v := ?_) rfl (by kernel_rfl) (by kernel_rfl) (by kernel_rfl) (fun _ _ _ h => h) rfl (by assumption) ?_ ?_
      rotate_left
      · (intro wS hSw; (try dsimp only at hSw); go_simp; try with_reducible rfl)
      (try simp only [Act.put, List.setIfInBounds_toArray, List.set_cons_zero, List.set_cons_succ])
      refine takeL (i := 13) (v := ?_) rfl (by kernel_rfl) (by kernel_rfl) (by kernel_rfl) (fun _ _ _ h => h) rfl (by assumption) ?_ ?_
      rotate_left
      · (intro wS hSw; (try dsimp only at hSw); go_simp; try with_reducible rfl)
      (try simp only [Act.put, List.setIfInBounds_toArray, List.set_cons_zero, List.set_cons_succ])
      have hB5 := h3.box.of_block (show w5.heap[B]? = w3.heap[B]? from (hgrow5.block B (Nat.lt_of_lt_of_le h3.box.lt (by have := bA.size; exact this)) (fun e => hnB e.symm)).trans (bA.block B h3.box.lt))
      have q4 := hB5.cell (show 4 < 5 by omega)
      have qf := hB5.frozen 4
      obtain ⟨P7, bP7⟩ := h3.pushEv (x := ⟨2, tx, t, r, (rAt (tAt m.x i).w q).v, -1⟩) bA hgrow5 hown5 (by rcases hat5 with e | e; exact .inl e; exact .inr (by omega))
      refine wpAnyH_done (by kernel_rfl) ?_ _
      refine lastL (n := 14) rfl rfl ?_
      go_simp
      have b7 := b3.trans bP7
      clear hHeld2 q4 qf hB5 k5 hnB hlt5 hat5 hgrow5 hown5 hXA bA bD hbt hI hz0 hz1' hz2 c4 h3 b3 t0 t1
      go_wp2
      go_ret2
      exact ⟨b7, .inl ⟨HO.out, HT.out, HH.out, i, ((rAt (tAt m.x i).w q).v, -1), _, HI.out, hR.out, rfl, P7⟩⟩
    · have hR : Hid (RdIs m t r i (P.1, P.2)) := .inr ⟨fun j hj => hat (by rw [← LowK.at (show LowK (tAt m.x i).w t r q from hlow.out) hup hj]; exact hj), hP.out.symm⟩
      rw [decide_eq_false hat]
      clear hat hP hlow
      go_wp2_with fail
      obtain ⟨c4, _⟩ := h3.cell (j := 4) (by omega)
      simp only [bxf] at c4
      obtain ⟨ti, hI, hz0, hz1', hz2⟩ := info_parts infoEv
      have hzW : base ≤ w3.heap.size := by have := h3.box.lt; omega
      have bD := (Below.refl w3.heap.size w3).drew
      refine region_last (fun x => x.cell? ⟨B, 4, none⟩ = some (.slice a3 m.h.length cap3) ∧ x.cell? ⟨w.heap.size, 0, none⟩ = some (.int .i64 t) ∧ x.cell? ⟨w.heap.size, 1, none⟩ = some (.int .i64 r)) (by kernel_rfl) (by kernel_rfl) (by kernel_rfl) ⟨cell_stays bD c4, cell_stays bD t0, cell_stays bD t1⟩ (fun hHeld0 => ?_)
      simp only [List.dropLast, List.length_cons, List.length_nil, Nat.reduceAdd]
      have hbt := build_evR tx t r (P.1) (P.2)
      refine takeL (i := 0) (v := ?_) rfl (by kernel_rfl) (by kernel_rfl) (by kernel_rfl) (fun _ _ _ h => h) rfl (by assumption) ?_ ?_
      rotate_left
      · (intro wS hSw; (try dsimp only at hSw); go_simp; try with_reducible rfl)
      (try simp only [Act.put, List.setIfInBounds_toArray, List.set_cons_zero, List.set_cons_succ])
      refine takeL (i := 1) (v := ?_) rfl (by kernel_rfl) (by kernel_rfl) (by kernel_rfl) (fun _ _ _ h => h) rfl (by assumption) ?_ ?_
      rotate_left
      · (intro wS hSw; (try dsimp only at hSw); go_simp; try with_reducible rfl)
      (try simp only [Act.put, List.setIfInBounds_toArray, List.set_cons_zero, List.set_cons_succ])
      refine takeL (i := 2) (v := ?_) rfl (by kernel_rfl) (by kernel_rfl) (by kernel_rfl) (fun _ _ _ h => h) rfl (by assumption) ?_ ?_
      rotate_left
      · (intro wS hSw; (try dsimp only at hSw); go_simp; try with_reducible rfl)
      (try simp only [Act.put, List.setIfInBounds_toArray, List.set_cons_zero, List.set_cons_succ])
      refine takeL (i := 3) (v := ?_) rfl (by kernel_rfl) (by kernel_rfl) (by kernel_rfl) (fun _ _ _ h => h) rfl (by assumption) ?_ ?_
      rotate_left
      · (intro wS hSw; (try dsimp only at hSw); go_simp; try with_reducible rfl)
      (try simp only [Act.put, List.setIfInBounds_toArray, List.set_cons_zero, List.set_cons_succ])
      refine takeL (i := 4) (v := ?_) rfl (by kernel_rfl) (by kernel_rfl) (by kernel_rfl) (fun _ _ _ h => h) rfl (by assumption) ?_ ?_
      rotate_left
      · (intro wS hSw; (try dsimp only at hSw); go_simp; try with_reducible rfl)
      (try simp only [Act.put, List.setIfInBounds_toArray, List.set_cons_zero, List.set_cons_succ])
      refine takeL (i := 5) (v := ?_) rfl (by kernel_rfl) (by kernel_rfl) (by kernel_rfl) (fun _ _ _ h => h) rfl (by assumption) ?_ ?_
      rotate_left
      · (intro wS hSw; (try dsimp only at hSw); go_simp; try with_reducible rfl)
      (try simp only [Act.put, List.setIfInBounds_toArray, List.set_cons_zero, List.set_cons_succ])
      refine takeL (i := 6) (v := ?_) rfl (by kernel_rfl) (by kernel_rfl) (by kernel_rfl) (fun _ _ _ h => h) rfl (by assumption) ?_ ?_
      rotate_left
      · (intro wS hSw; (try dsimp only at hSw); go_simp; try with_reducible rfl)
      (try simp only [Act.put, List.setIfInBounds_toArray, List.set_cons_zero, List.set_cons_succ])
      refine takeL (i := 7) (v := ?_) rfl (by kernel_rfl) (by kernel_rfl) (by kernel_rfl) (fun _ _ _ h => h) rfl (by assumption) ?_ ?_
      rotate_left
      · (intro wS hSw; (try dsimp only at hSw); go_simp; try with_reducible rfl)
      (try simp only [Act.put, List.setIfInBounds_toArray, List.set_cons_zero, List.set_cons_succ])
      refine takeL (i := 8) (v := ?_) rfl (by kernel_rfl) (by kernel_rfl) (by kernel_rfl) (fun _ _ _ h => h) rfl (by assumption) ?_ ?_
      rotate_left
      · (intro wS hSw; (try dsimp only at hSw); go_simp; try with_reducible rfl)
      (try simp only [Act.put, List.setIfInBounds_toArray, List.set_cons_zero, List.set_cons_succ])
      refine takeL (i := 9) (v := ?_) rfl (by kernel_rfl) (by kernel_rfl) (by kernel_rfl) (fun _ _ _ h => h) rfl (by assumption) ?_ ?_
      rotate_left
      · (intro wS hSw; (try dsimp only at hSw); go_simp; try with_reducible rfl)
      (try simp only [Act.put, List.setIfInBounds_toArray, List.set_cons_zero, List.set_cons_succ])
      refine stepL (i := 10) rfl (by kernel_rfl) (fun K hK => ?_)
      rw [if_pos (by rfl)]
      go_simp
      have bA := bD.alloc (by exact Nat.le_refl _) (Obj.cells #[.int .i64 2, .int .i64 tx, .int .i64 t, .int .i64 r, .int .i64 (P.1), .int .i64 (P.2)] 101)
      refine hK.out _ _ ⟨cell_stays bA c4, cell_stays bA t0, cell_stays bA t1⟩ (fun hHeld1 => ?_)
      clear hK K hHeld0
      (try simp only [Act.put, List.setIfInBounds_toArray, List.set_cons_zero, List.set_cons_succ])
      refine stepL (i := 11) rfl (by kernel_rfl) (fun K hK => ?_)
      have hXA := owns_keepM h3.own.h fun g hg hl => bA.block g hl
      refine step_append_lies _ (by rfl) _ _ _ (by rfl) base 101 ti _ 6 48 Tryz.underlying34 hI hz0 hz1' hz2 rfl (by omega) (.slice a3 m.h.length cap3) m.h.length (hexa m.h) (by rfl) hXA ⟨w3.heap.size, 0, none⟩ 1 1 [.int .i64 2, .int .i64 tx, .int .i64 t, .int .i64 r, .int .i64 (P.1), .int .i64 (P.2)] (by rfl) (by rfl) (newsM w3.drew _ _) (by intro u hu; simp at hu; rcases hu with rfl | rfl | rfl | rfl | rfl | rfl <;> rfl) (by omega) (by unfold maxLen; omega) (by omega) (by simp; omega) (w3.heap.size + 1) (by simp) ?_
      intro gg cap5 w5 hown5 hgrow5 hat5 hlt5
      have hnB := h3.apart 1 (by omega)
      have k5 : ∀ b, b < w3.heap.size → (Value.slice a3 m.h.length cap3).ownBlock ≠ some b → ∀ (o : Nat) (u : Value), w3.cell? ⟨b, o, none⟩ = some u → w5.cell? ⟨b, o, none⟩ = some u := fun b hb hne o u hu => cell_same (hgrow5.block b (Nat.lt_of_lt_of_le hb (by have := bA.size; exact this)) (fun e => hne e.symm)) (cell_stays bA hu)
      refine hK.out _ _ ⟨k5 B h3.box.lt hnB _ _ c4, k5 _ (cell_lt t0) hnK _ _ t0, k5 _ (cell_lt t0) hnK _ _ t1⟩ (fun hHeld2 => ?_)
      clear hK K hHeld1
      (try simp only [Act.put, List.setIfInBounds_toArray, List.set_cons_zero, List.set_cons_succ])
      refine takeL (i := 12) (v := ?_) rfl (by kernel_rfl) (by kernel_rfl) (by kernel_rfl) (fun _ _ _ h => h) rfl (by assumption) ?_ ?_
      rotate_left
      · (intro wS hSw; (try dsimp only at hSw); go_simp; try with_reducible rfl)
      (try simp only [Act.put, List.setIfInBounds_toArray, List.set_cons_zero, List.set_cons_succ])
      refine takeL (i := 13) (v := ?_) rfl (by kernel_rfl) (by kernel_rfl) (by kernel_rfl) (fun _ _ _ h => h) rfl (by assumption) ?_ ?_
      rotate_left
      · (intro wS hSw; (try dsimp only at hSw); go_simp; try with_reducible rfl)
      (try simp only [Act.put, List.setIfInBounds_toArray, List.set_cons_zero, List.set_cons_succ])
      have hB5 := h3.box.of_block (show w5.heap[B]? = w3.heap[B]? from (hgrow5.block B (Nat.lt_of_lt_of_le h3.box.lt (by have := bA.size; exact this)) (fun e => hnB e.symm)).trans (bA.block B h3.box.lt))
      have q4 := hB5.cell (show 4 < 5 by omega)
      have qf := hB5.frozen 4
      obtain ⟨P7, bP7⟩ := h3.pushEv (x := ⟨2, tx, t, r, P.1, P.2⟩) bA hgrow5 hown5 (by rcases hat5 with e | e; exact .inl e; exact .inr (by omega))
      refine wpAnyH_done (by kernel_rfl) ?_ _
      refine lastL (n := 14) rfl rfl ?_
      go_simp
      have b7 := b3.trans bP7
      clear hHeld2 q4 qf hB5 k5 hnB hlt5 hat5 hgrow5 hown5 hXA bA bD hbt hI hz0 hz1' hz2 c4 h3 b3 t0 t1
      go_wp2
      go_ret2
      exact ⟨b7, .inl ⟨HO.out, HT.out, HH.out, i, (P.1, P.2), _, HI.out, hR.out, rfl, P7⟩⟩
  · have HN : Hid (¬ mgrOk m ∨ NoTx m tx ∨ ¬ tabB t = true) := hno
    clear hno
    simp only [refE]
    go_wp2
    go_ret2
    exact ⟨b1, .inr (.inl ⟨HN.out, rfl⟩)⟩
  · have HN : Hid (mgrOk m ∧ (∃ i, IsTx m tx i) ∧ tabB t = true ∧ ¬ m.h.length ≤ 2998) := ⟨hok, hx, ht, hh⟩
    clear hok hx ht hh
    simp only [refE]
    go_wp2
    go_ret2
    exact ⟨b1, .inr (.inr ⟨HN.out.1, HN.out.2.1, HN.out.2.2.1, HN.out.2.2.2, rfl⟩)⟩
end Go.Proofs.YtmecbppblbmchaaGreatDoor

/- spec.l1read: what is read of a row at an hour. -/
namespace Go.Proofs.YtmecbppblbmchaaGreatDoor
open Go.ChangeShapes Go.WideShapes Go.ChangeAt Go.RowKit Go.Sort Go.Maps
set_option linter.unusedVariables false
set_option maxRecDepth 100000
attribute [local go_sem ↓] Go.wp_at_zero Go.wp_at_succ

set_option maxHeartbeats 1000000 in
theorem l1read_any (v : Value) (l : List Ch) (t r h : Int) (w : World) {lo hi : Nat} (hl : ChainsAt lo hi w v l) :
    Calls Tryz.prog 80 #[.agg #[v], .agg #[.int .i64 t, .int .i64 r], .int .i64 h] w fun e w' => ∃ x : Vr, e = .returned (.agg #[.int .i64 x.1, .int .i64 x.2]) ∧ IsRead l t r h x ∧ Below w.heap.size w w' := by
  have hl2 := hl
  obtain ⟨a, cap, hv, hm, hc⟩ := hl2
  subst hv
  unfold maxLen at hm
  have hbx : Below w.heap.size w ((((w.alloc (Obj.cells #[Value.slice a l.length cap] 32)).alloc (Obj.cells #[.int .i64 t, .int .i64 r] 46)).alloc (Obj.cells #[.int .i64 0, .int .i64 0] 123)).alloc (Obj.cells #[.int .i64 0, .int .i64 0] 123)) :=
    (((Below.refl _ _).alloc (Nat.le_refl _) _).alloc (by simp) _).alloc (by simp; omega) _ |>.alloc (by simp; omega) _
  go_enter Tryz.func80, Tryz.ntmps80
  go_wp2_with fail
  refine (l1chain_any _ l t r _ (hl.stays hbx)).mono ?_
  rintro e w1 ⟨x, rfl, hx, hb1⟩
  have b1 := hbx.trans (hb1.mono hbx.size)
  obtain ⟨hc1, hf1⟩ := bcell hb1
  have z0 : w1.cell? ⟨w.heap.size, 0, none⟩ = some (.slice a l.length cap) := by rw [hc1 _ _ (by simp; omega)]; simp [go_sem]
  have z1 : w1.cell? ⟨w.heap.size + 1 + 1, 0, none⟩ = some (.int .i64 0) := by rw [hc1 _ _ (by simp)]; simp [go_sem]
  have z2 : w1.cell? ⟨w.heap.size + 1 + 1, 1, none⟩ = some (.int .i64 0) := by rw [hc1 _ _ (by simp)]; simp [go_sem]
  have z3 : w1.cell? ⟨w.heap.size + 1 + 1 + 1, 0, none⟩ = some (.int .i64 0) := by rw [hc1 _ _ (by simp)]; simp [go_sem]
  have z4 : w1.cell? ⟨w.heap.size + 1 + 1 + 1, 1, none⟩ = some (.int .i64 0) := by rw [hc1 _ _ (by simp)]; simp [go_sem]
  have y1 : w1.frozen? ⟨w.heap.size + 1 + 1, 0, none⟩ = false := by rw [hf1 _ _ (by simp)]; simp [go_sem]
  have y2 : w1.frozen? ⟨w.heap.size + 1 + 1, 1, none⟩ = false := by rw [hf1 _ _ (by simp)]; simp [go_sem]
  have y3 : w1.frozen? ⟨w.heap.size + 1 + 1 + 1, 0, none⟩ = false := by rw [hf1 _ _ (by simp)]; simp [go_sem]
  have y4 : w1.frozen? ⟨w.heap.size + 1 + 1 + 1, 1, none⟩ = false := by rw [hf1 _ _ (by simp)]; simp [go_sem]
  clear hc1 hf1 hb1 hbx
  rcases hx with ⟨rfl, hno⟩ | ⟨n, rfl, hn, hkm, hfirst⟩
  · clear hc
    go_wp2
    refine bodyPost_ret (v := .agg #[.int .i64 0, .int .i64 0]) (by simp [results, Tryz.results80, go_sem, z1, z2]) rfl ⟨(0, 0), rfl, .inl ⟨rfl, hno⟩, ?_⟩
    exact (b1.setCell (by simp; omega) _).setCell (by simp; omega) _
  · obtain ⟨b, off, rfl, hlo, hhi, hcc⟩ := hc (by omega)
    obtain ⟨c0, c1, ca, cb, c2, c3⟩ := hcc n hn
    obtain ⟨a2, cap2, e2, hm2, hc2⟩ := c3
    injection e2 with e2a e2b e2c
    subst e2a e2c
    clear e2b hcc hc c0 c1
    unfold maxLen at hm2
    have n0 : (0 : Int) ≤ (n : Int) := by omega
    have n1 : (n : Int) < (l.length : Int) := by omega
    go_wp2
    go_loopw [9] (fun i wr => ∃ (q : Nat) (x : Vr), q ≤ (cAt l n).l.length ∧ i = .int .i64 q ∧ Below w.heap.size w wr ∧ wr.cell? ⟨w.heap.size, 0, none⟩ = some (.slice (some ⟨b, off, none⟩) l.length cap) ∧
        (∃ u, wr.cell? ⟨w.heap.size + 1 + 1, 0, none⟩ = some u) ∧ (∃ u, wr.cell? ⟨w.heap.size + 1 + 1, 1, none⟩ = some u) ∧ wr.cell? ⟨w.heap.size + 1 + 1 + 1, 0, none⟩ = some (.int .i64 x.1) ∧ wr.cell? ⟨w.heap.size + 1 + 1 + 1, 1, none⟩ = some (.int .i64 x.2) ∧
        wr.frozen? ⟨w.heap.size + 1 + 1, 0, none⟩ = false ∧ wr.frozen? ⟨w.heap.size + 1 + 1, 1, none⟩ = false ∧ wr.frozen? ⟨w.heap.size + 1 + 1 + 1, 0, none⟩ = false ∧ wr.frozen? ⟨w.heap.size + 1 + 1 + 1, 1, none⟩ = false ∧
        IsLast (cAt l n).l h q x) (fun i _ => (cAt l n).l.length - (intOf i).toNat)
    case atStart => exact ⟨0, (0, 0), Nat.zero_le _, rfl, b1, z0, ⟨_, z1⟩, ⟨_, z2⟩, z3, z4, y1, y2, y3, y4, .inl ⟨rfl, fun j hj => absurd hj (Nat.not_lt_zero _)⟩⟩
    case round =>
      clear z0 z1 z2 z3 z4 y1 y2 y3 y4
      obtain ⟨q, x, hq, rfl, hb, z0, ⟨u1, z1⟩, ⟨u2, z2⟩, z3, z4, y1, y2, y3, y4, hlast⟩ := hrel
      have d2 := cell_stays hb c2
      by_cases hlt : q < (cAt l n).l.length
      · obtain ⟨b2, off2, rfl, _, _, hcc2⟩ := hc2 (by omega)
        have e0 := cell_stays hb (hcc2 q hlt).1
        have e1 := cell_stays hb (hcc2 q hlt).2
        clear hcc2 hc2
        have j0 : (0 : Int) ≤ (q : Int) := by omega
        have j1 : (q : Int) < ((cAt l n).l.length : Int) := by omega
        by_cases hle : (vAt (cAt l n).l q).1 ≤ h
        · go_wp2
          go_roundw
          case rel => exact ⟨q + 1, vAt (cAt l n).l q, by omega, by go_num, (hb.setCell (by simp; omega) _).setCell (by simp; omega) _, by simp [go_sem, z0], ⟨u1, by simp [go_sem, z1]⟩, ⟨u2, by simp [go_sem, z2]⟩, by simp [go_sem, z3], by simp [go_sem, z4], by simp [go_sem, y1], by simp [go_sem, y2], by simp [go_sem, y3], by simp [go_sem, y4], IsLast.step_yes hle⟩
          case measure => simp [intOf]; omega
        · go_wp2
          go_roundw
          case rel => exact ⟨q + 1, x, by omega, by go_num, hb, z0, ⟨_, z1⟩, ⟨_, z2⟩, z3, z4, y1, y2, y3, y4, hlast.step_no (by omega)⟩
          case measure => simp [intOf]; omega
      · have hqq : q = (cAt l n).l.length := by omega
        go_wp2
        refine bodyPost_ret (v := .agg #[.int .i64 x.1, .int .i64 x.2]) (by simp [results, Tryz.results80, go_sem, z1, z2]) rfl ⟨x, rfl, .inr ⟨n, hn, hkm, hfirst, hqq ▸ hlast⟩, ?_⟩
        exact (hb.setCell (by simp; omega) _).setCell (by simp; omega) _

/-! ### ReadAt -/

end Go.Proofs.YtmecbppblbmchaaGreatDoor

/- The specification's l2row and l2read. -/
namespace Go.Proofs.YtmecbppblbmchaaGreatDoor
open Go.ChangeShapes Go.WideShapes Go.ChangeAt Go.RowKit Go.Sort Go.Maps
set_option linter.unusedVariables false
set_option maxRecDepth 100000
attribute [local go_sem ↓] Go.wp_at_zero Go.wp_at_succ

/-- What l2row answers. -/
def RowAns (l : List Rw) (t r : Int) (x : Int) : Prop := (x = -1 ∧ ∀ j, ¬ AtK l t r j) ∨ ∃ k : Nat, x = (k : Int) ∧ AtK l t r k

set_option maxHeartbeats 2000000 in
theorem l2row_any (v : Value) (l : List Rw) (t r : Int) (w : World) {lo hi : Nat} (h : RowsAt lo hi w v l) :
    Calls Tryz.prog 79 #[v, .agg #[.int .i64 t, .int .i64 r]] w fun e w' => (∃ x, e = .returned (.int .i64 x) ∧ RowAns l t r x) ∧ Below w.heap.size w w' := by
  obtain ⟨a, cap, rfl, hm, hc⟩ := h
  unfold maxLen at hm
  have hbx : Below w.heap.size w (w.alloc (Obj.cells #[.int .i64 t, .int .i64 r] 46)) := (Below.refl _ _).alloc (Nat.le_refl _) _
  go_enter Tryz.func79, Tryz.ntmps79
  go_wp2
  go_loopw [5] (fun i wr => ∃ k : Nat, k ≤ l.length ∧ i = .int .i64 k ∧ Below w.heap.size w wr ∧ wr.cell? ⟨w.heap.size, 0, none⟩ = some (.int .i64 t) ∧ wr.cell? ⟨w.heap.size, 1, none⟩ = some (.int .i64 r) ∧ Hid (∀ j, j < k → ¬ AtK l t r j)) (fun i _ => l.length - (intOf i).toNat)
  case atStart => exact ⟨0, Nat.zero_le _, rfl, hbx, by simp, by simp, fun j hj => absurd hj (Nat.not_lt_zero _)⟩
  case round =>
    obtain ⟨k, hk, rfl, hb, hp1, hp2, hs⟩ := hrel
    by_cases hlt : k < l.length
    · obtain ⟨b, off, rfl, hlo, hhi, hcc⟩ := hc (by omega)
      obtain ⟨c0, c1, _⟩ := hcc k hlt
      have k1 := cell_regrown hp1
      have k2 := cell_regrown hp2
      have k3 := cell_regrown (cell_stays hb c0)
      have k4 := cell_regrown (cell_stays hb c1)
      have i0 : (0 : Int) ≤ (k : Int) := by omega
      have i1 : (k : Int) < (l.length : Int) := by omega
      clear hc hcc c0 c1
      have keq := key_eql (rAt l k).t (rAt l k).r t r
      by_cases hkm : (rAt l k).t = t ∧ (rAt l k).r = r
      · have hd : decide ((rAt l k).t = t ∧ (rAt l k).r = r) = true := decide_eq_true hkm
        rw [hd] at keq
        have HK : Hid (AtK l t r k) := ⟨hlt, hkm⟩
        clear hkm hd
        go_wp2_with fail
        refine wp_region_quiet_below (by kernel_rfl) (by kernel_rfl) ?_
        repeat (go_big_quiet_step (fail))
        refine wpQuiet_nil ?_
        intro w2 hw2
        obtain ⟨⟨dq, osq⟩, hw3⟩ := hw2
        have hb2 : Below _ _ w2 := hw3 ▸ below_regrown _ dq osq
        clear hw3 keq k1 k2 k3 k4
        go_wp2
        go_ret
        exact ⟨⟨_, rfl, .inr ⟨k, rfl, HK.out⟩⟩, hb.trans (hb2.mono hb.size)⟩
      · have hd : decide ((rAt l k).t = t ∧ (rAt l k).r = r) = false := decide_eq_false hkm
        rw [hd] at keq
        have HK : Hid (∀ j, j < k + 1 → ¬ AtK l t r j) := fun j hj => by
          by_cases e : j = k
          · subst e; exact fun h => hkm h.2
          · exact hs.out j (by omega)
        clear hkm hd hs
        go_wp2_with fail
        refine wp_region_quiet_below (by kernel_rfl) (by kernel_rfl) ?_
        repeat (go_big_quiet_step (fail))
        refine wpQuiet_nil ?_
        intro w2 hw2
        obtain ⟨⟨dq, osq⟩, hw3⟩ := hw2
        have hb2 : Below _ _ w2 := hw3 ▸ below_regrown _ dq osq
        clear hw3 keq k1 k2 k3 k4
        go_wp2
        go_roundw
        case rel => exact ⟨k + 1, by omega, by go_num, hb.trans (hb2.mono hb.size), cell_stays hb2 hp1, cell_stays hb2 hp2, HK⟩
        case measure => simp [intOf]; omega
    · have HN : Hid (∀ j, ¬ AtK l t r j) := fun j hj => hs.out j (by have := hj.1; omega) hj
      clear hs hc
      go_wp2
      go_ret
      exact ⟨⟨_, rfl, .inl ⟨rfl, HN.out⟩⟩, hb⟩
end Go.Proofs.YtmecbppblbmchaaGreatDoor
