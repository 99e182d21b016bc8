import Derived.Test.YtmecbppblbmchaaGreatDoorU3
import Derived.Test.YtmecbppblbmchaaGreatDoorT4
import Derived.Test.YtmecbppblbmchaaGreatDoorU0
/- The specification's l2write, on a state behind a pointer. -/
namespace Go.Proofs.YtmecbppblbmchaaGreatDoor
open Go.ChangeShapes Go.WideShapes Go.ChangeAt Go.RowKit Go.Sort
set_option linter.unusedVariables false
set_option maxRecDepth 100000
attribute [local go_sem ↓] Go.wp_at_zero Go.wp_at_succ

theorem build_rowKV (t r v : Int) (w : World) : (Instr.build 111 #[(0, .agg #[.int .i64 t, .int .i64 r]), (1, .int .i64 v)]).run Tryz.prog w = .ok (.agg #[.int .i64 t, .int .i64 r, .int .i64 v]) w := by kernel_rfl
/-- What l2write comes to on a state behind a pointer. -/
def WrL (base B : Nat) (m : Md) (tx t r v : Int) (w w' : World) (e : Ending) : Prop := Below base w w' ∧ ∃ x code, RW m x tx t r v code ∧ e = .returned (.int .i64 code) ∧ ((code = 0 ∧ ∃ s0 s1 vs vt ve wv, PtrM base w' B s0 s1 vs vt ve x wv) ∨ (code ≠ 0 ∧ x = md0))
/-- What l2row's answer tells. -/
theorem rowAns_dec {l : List Rw} {t r x : Int} (h : RowAns l t r x) : (x < 0 ↔ ∀ j, ¬ AtK l t r j) := by
  rcases h with ⟨rfl, h⟩ | ⟨k, rfl, h⟩
  · exact ⟨fun _ => h, fun _ => by decide⟩
  · exact ⟨fun h' => by omega, fun h' => absurd h (h' k)⟩

set_option maxHeartbeats 16000000 in
theorem l2write_p (base B s0 s1 : Nat) (vs vt ve : Value) (m : Md) (wv : Nat → Value) (tx t r v : Int) (i : Nat) (w : World) (h : PtrM base w B s0 s1 vs vt ve m wv) (hn : SmallM' m) (hok : mgrOk m) (hi : IsTx m tx i) (ht : tabB t = true) :
    Calls Tryz.prog 49 #[.pointer (some ⟨B, 0, none⟩), .int .i64 (i : Int), .agg #[.int .i64 t, .int .i64 r], .int .i64 v] w fun e w' => WrL base B m tx t r v w w' e := by
  have hM := h.own.mat hn
  obtain ⟨a1, cap1, hv1⟩ : ∃ a cap, vs = .slice a m.s.length cap := by obtain ⟨a, cap, h1, _⟩ := hM.s; exact ⟨a, cap, h1⟩
  obtain ⟨a2, cap2, hv2⟩ : ∃ a cap, vt = .slice a m.x.length cap := by obtain ⟨a, cap, h1, _⟩ := hM.x; exact ⟨a, cap, h1⟩
  obtain ⟨a3, cap3, hv3⟩ : ∃ a cap, ve = .slice a m.h.length cap := by obtain ⟨a, cap, h1, _⟩ := hM.h; exact ⟨a, cap, h1⟩
  subst hv1 hv2 hv3
  have hbase := h.base
  have hBl := h.box.lt
  have hhl := hn.h
  have hxl := hn.x
  have hup := mgr_up hok hi.1
  have hil := hi.1
  have hie := hi.2.1
  have hw60 : (tAt m.x i).w.length ≤ 60 := (hok.2.2.2.2.2.2.2 i hil).2.2.2.2.2.1
  have hwl := hn.w i hil
  have HO : Hid (mgrOk m) := hok
  have HI : Hid (IsTx m tx i) := hi
  have HT : Hid (tabB t = true) := ht
  have HU : Hid (RowsUp (tAt m.x i).w) := hup
  clear hok hi ht hup
  have bK : Below w.heap.size w (w.alloc (Obj.cells #[Value.int IntKind.i64 t, Value.int IntKind.i64 r] 46)) := (Below.refl _ _).alloc (Nat.le_refl _) _
  have k0 : (w.alloc (Obj.cells #[Value.int IntKind.i64 t, Value.int IntKind.i64 r] 46)).cell? ⟨w.heap.size, 0, none⟩ = some (.int .i64 t) := by simp [go_sem]
  have k1 : (w.alloc (Obj.cells #[Value.int IntKind.i64 t, Value.int IntKind.i64 r] 46)).cell? ⟨w.heap.size, 1, none⟩ = some (.int .i64 r) := by simp [go_sem]
  have h1 := h.stays bK
  have hvl : ∀ k, (Value.slice a3 m.h.length cap3).ownBlock = some k → k < w.heap.size := fun k hk => (owns_ltM h.own.h hk).2
  have hwl0 : ∀ j, j < m.x.length → ∀ k, (wv j).ownBlock = some k → k < w.heap.size := fun j hj k hk => (owns_ltM (h.own.xw j hj) hk).2
  have hxl0 : ∀ k, (Value.slice a2 m.x.length cap2).ownBlock = some k → k < w.heap.size := fun k hk => (owns_ltM h.own.x hk).2
  obtain ⟨g, hg, hgb, x0, xf0⟩ := owns_cell h1.own.x (txc_get m.x wv hil).1
  subst hg
  obtain ⟨_, e2, _, x2, xf⟩ := owns_cell h1.own.x (txc_get m.x wv hil).2.2
  cases e2
  rw [hie] at x0
  obtain ⟨wa, wcp, hwv⟩ := owns_sliceM (h1.own.xw i hil)
  rw [hwv] at x2
  have hgl : g < w.heap.size := hxl0 g rfl
  have hgB : g ≠ B := fun e => h1.apart 0 (by omega) (by rw [e]; rfl)
  have hW := rows_ofOwns (h1.own.xw i hil) hwl
  rw [hwv] at hW
  have i0 : (0 : Int) ≤ (i : Int) := by omega
  have i1 : (i : Int) < (m.x.length : Int) := by omega
  obtain ⟨z0, z1, z2, z3, z4⟩ := h1.mbox
  have hK1 : w.heap.size < (w.alloc (Obj.cells #[Value.int IntKind.i64 t, Value.int IntKind.i64 r] 46)).heap.size := by simp
  clear hM h z0 z1 z2
  go_enter Tryz.func49, Tryz.ntmps49
  go_upto_region 2 with (fail)
  generalize w.alloc (Obj.cells #[Value.int IntKind.i64 t, Value.int IntKind.i64 r] 46) = W1 at *
  have gk0 := cell_regrown k0
  have gk1 := cell_regrown k1
  have gx2 := cell_regrown x2
  obtain ⟨R, hR⟩ : ∃ R, RowAns (tAt m.x i).w t r R := by
    by_cases e : ∃ k, AtK (tAt m.x i).w t r k
    · obtain ⟨k, hk⟩ := e; exact ⟨_, .inr ⟨k, rfl, hk⟩⟩
    · exact ⟨_, .inl ⟨rfl, fun j hj => e ⟨j, hj⟩⟩⟩
  have HF : ∀ W, Below W1.heap.size W1 W → Calls Tryz.prog 79 #[.slice wa (tAt m.x i).w.length wcp, .agg #[.int .i64 t, .int .i64 r]] W fun e w' => e = .returned (.int .i64 R) ∧ Below W.heap.size W w' := fun W hW' => (l2row_any _ (tAt m.x i).w t r W (hW.stays hW')).mono (by
    rintro e w' ⟨⟨x, rfl, hx⟩, hb⟩
    refine ⟨?_, hb⟩
    rcases hx with ⟨rfl, hx⟩ | ⟨k, rfl, hx⟩ <;> rcases hR with ⟨rfl, hr⟩ | ⟨k', rfl, hr⟩
    · rfl
    · exact absurd hr (hx _)
    · exact absurd hx (hr _)
    · rw [up_key HU.out hx.1 hr.1 (hx.2.1.trans hr.2.1.symm) (hx.2.2.trans hr.2.2.symm)])
  have HR : Hid (RowAns (tAt m.x i).w t r R) := hR
  clear hR
  refine wp_region_quiet_below (by kernel_rfl) (by kernel_rfl) ?_
  repeat (go_big_quiet_step (first | (go_at_call 79; exact Calls.regrown_of (HF _ (below_regrown _ _ _)))))
  refine wpQuiet_nil ?_
  intro w3 hw3
  obtain ⟨⟨dq, osq⟩, hw4⟩ := hw3
  have hb3 : Below _ _ w3 := hw4 ▸ below_regrown _ dq osq
  clear hw4 gk0 gk1 gx2 HF
  have b3 : Below base w w3 := (bK.mono (by omega)).trans (hb3.mono (by have := bK.size; omega))
  have t0 := cell_stays hb3 k0
  have t1 := cell_stays hb3 k1
  have u2 := cell_stays hb3 x2
  have u0 := cell_stays hb3 x0
  have v4 := cell_stays hb3 z4
  have uf : w3.frozen? ⟨g, i * 3 + 2, none⟩ = false := by rw [hb3.frozen (by show g < _; omega)]; exact xf
  have h3 := h1.stays hb3
  have hWq := hW.stays hb3
  have hz3 : w.heap.size ≤ w3.heap.size := by have := cell_lt t0; show w.heap.size ≤ _; exact Nat.le_of_lt this
  have hzW3 : base ≤ w3.heap.size := by omega
  clear k0 k1 x2 x0 xf xf0 z3 z4 hb3 h1 hW bK
  by_cases hh : (2998 : Int) < (m.h.length : Int)
  · have HH : Hid (¬ m.h.length ≤ 2998) := (show ¬ m.h.length ≤ 2998 by omega)
    go_wp2
    go_ret
    exact ⟨b3, md0, 2, .inr (.inr ⟨HO.out, HT.out, ⟨i, HI.out, .inl HH.out⟩, rfl, rfl⟩), rfl, .inr ⟨by decide, rfl⟩⟩
  have HH : Hid (m.h.length ≤ 2998) := (show m.h.length ≤ 2998 by omega)
  have HNF : Hid (¬ (R < 0 ∧ (tAt m.x i).w.length = 60) → ¬ FullW m i t r) := fun h1 h2 => h1 ⟨(rowAns_dec HR.out).2 h2.1, h2.2⟩
  have HFF : Hid ((R < 0 ∧ (tAt m.x i).w.length = 60) → FullW m i t r) := fun h1 => ⟨(rowAns_dec HR.out).1 h1.1, h1.2⟩
  by_cases hfull : R < 0 ∧ (tAt m.x i).w.length = 60
  · have HF := HFF.out hfull
    change Hid _ at HF
    obtain ⟨hR0, h60⟩ := hfull
    have hd : (((tAt m.x i).w.length : Int) == 60) = true := by simp; omega
    change Hid _ at h60
    go_wp2
    go_ret
    exact ⟨b3, md0, 2, .inr (.inr ⟨HO.out, HT.out, ⟨i, HI.out, .inr HF.out⟩, rfl, rfl⟩), rfl, .inr ⟨by decide, rfl⟩⟩
  have HNF2 : Hid (¬ FullW m i t r) := HNF.out hfull
  have HD : Hid (¬ (R < 0 ∧ (tAt m.x i).w.length = 60)) := hfull
  clear hfull HNF HFF HR
  by_cases hR0 : R < 0
  · have hd : (((tAt m.x i).w.length : Int) == 60) = false := by rw [beq_eq_false_iff_ne]; exact fun e => HD.out ⟨hR0, by omega⟩

    have hbr := build_rowKV t r v
    have bD := (Below.refl w3.heap.size w3).drew
    obtain ⟨tj, hJ, hj0, hj1, hj2⟩ := info_parts infoRowU
    go_wp2_with fail
    refine region_last (fun x => x.cell? ⟨g, i * 3 + 2, none⟩ = some (.slice wa (tAt m.x i).w.length wcp) ∧ x.cell? ⟨w.heap.size, 0, none⟩ = some (.int .i64 t) ∧ x.cell? ⟨w.heap.size, 1, none⟩ = some (.int .i64 r)) (by kernel_rfl) (by kernel_rfl) (by kernel_rfl) ⟨cell_stays bD u2, cell_stays bD t0, cell_stays bD t1⟩ (fun hHeld0 => ?_)
    simp only [List.dropLast, List.length_cons, List.length_nil, Nat.reduceAdd]
    refine takeL (i := 0) (v := ?_) rfl (by kernel_rfl) (by kernel_rfl) (by kernel_rfl) (fun _ _ _ h => h) rfl (by assumption) ?_ ?_
    rotate_left
    · (intro wS hSw; (try dsimp only at hSw); go_simp; try with_reducible rfl)
    (try simp only [Act.put, List.setIfInBounds_toArray, List.set_cons_zero, List.set_cons_succ])
    refine takeL (i := 1) (v := ?_) rfl (by kernel_rfl) (by kernel_rfl) (by kernel_rfl) (fun _ _ _ h => h) rfl (by assumption) ?_ ?_
    rotate_left
    · (intro wS hSw; (try dsimp only at hSw); go_simp; try with_reducible rfl)
    (try simp only [Act.put, List.setIfInBounds_toArray, List.set_cons_zero, List.set_cons_succ])
    refine takeL (i := 2) (v := ?_) rfl (by kernel_rfl) (by kernel_rfl) (by kernel_rfl) (fun _ _ _ h => h) rfl (by assumption) ?_ ?_
    rotate_left
    · (intro wS hSw; (try dsimp only at hSw); go_simp; try with_reducible rfl)
    (try simp only [Act.put, List.setIfInBounds_toArray, List.set_cons_zero, List.set_cons_succ])
    refine takeL (i := 3) (v := ?_) rfl (by kernel_rfl) (by kernel_rfl) (by kernel_rfl) (fun _ _ _ h => h) rfl (by assumption) ?_ ?_
    rotate_left
    · (intro wS hSw; (try dsimp only at hSw); go_simp; try with_reducible rfl)
    (try simp only [Act.put, List.setIfInBounds_toArray, List.set_cons_zero, List.set_cons_succ])
    refine takeL (i := 4) (v := ?_) rfl (by kernel_rfl) (by kernel_rfl) (by kernel_rfl) (fun _ _ _ h => h) rfl (by assumption) ?_ ?_
    rotate_left
    · (intro wS hSw; (try dsimp only at hSw); go_simp; try with_reducible rfl)
    (try simp only [Act.put, List.setIfInBounds_toArray, List.set_cons_zero, List.set_cons_succ])
    refine takeL (i := 5) (v := ?_) rfl (by kernel_rfl) (by kernel_rfl) (by kernel_rfl) (fun _ _ _ h => h) rfl (by assumption) ?_ ?_
    rotate_left
    · (intro wS hSw; (try dsimp only at hSw); go_simp; try with_reducible rfl)
    (try simp only [Act.put, List.setIfInBounds_toArray, List.set_cons_zero, List.set_cons_succ])
    refine takeL (i := 6) (v := ?_) rfl (by kernel_rfl) (by kernel_rfl) (by kernel_rfl) (fun _ _ _ h => h) rfl (by assumption) ?_ ?_
    rotate_left
    · (intro wS hSw; (try dsimp only at hSw); go_simp; try with_reducible rfl)
    (try simp only [Act.put, List.setIfInBounds_toArray, List.set_cons_zero, List.set_cons_succ])
    refine takeL (i := 7) (v := ?_) rfl (by kernel_rfl) (by kernel_rfl) (by kernel_rfl) (fun _ _ _ h => h) rfl (by assumption) ?_ ?_
    rotate_left
    · (intro wS hSw; (try dsimp only at hSw); go_simp; try with_reducible rfl)
    (try simp only [Act.put, List.setIfInBounds_toArray, List.set_cons_zero, List.set_cons_succ])
    refine stepL (i := 8) rfl (by kernel_rfl) (fun K hK => ?_)
    rw [if_pos (by rfl)]
    go_simp
    have bA := bD.alloc (by exact Nat.le_refl _) (Obj.cells #[.int .i64 t, .int .i64 r, .int .i64 v] 111)
    refine hK.out _ _ ⟨cell_stays bA u2, cell_stays bA t0, cell_stays bA t1⟩ (fun hHeld1 => ?_)
    clear hK K hHeld0
    (try simp only [Act.put, List.setIfInBounds_toArray, List.set_cons_zero, List.set_cons_succ])
    refine stepL (i := 9) rfl (by kernel_rfl) (fun K hK => ?_)
    have hXA := owns_keepM (h3.own.xw i hil) fun k hk hl => bA.block k hl
    rw [hwv] at hXA
    refine step_append_lies _ (by rfl) _ _ _ (by rfl) base 111 tj _ 3 24 Tryz.underlying95 hJ hj0 hj1 hj2 rfl (by omega) (.slice wa (tAt m.x i).w.length wcp) (tAt m.x i).w.length (flat (tAt m.x i).w) (by rfl) hXA ⟨w3.heap.size, 0, none⟩ 1 1 [.int .i64 t, .int .i64 r, .int .i64 v] (by rfl) (by rfl) (newsM w3.drew _ _) (by intro u hu; simp at hu; rcases hu with rfl | rfl | rfl <;> rfl) (by omega) (by unfold maxLen; omega) (by omega) (by simp; omega) (w3.heap.size + 1) (by simp) ?_
    intro gg cap6 w6 hown6 hgr6 hat6 hlt6
    have hww : ∀ k, (Value.slice wa (tAt m.x i).w.length wcp).ownBlock = some k → k < w.heap.size ∧ k ≠ g := fun k hk => ⟨hwl0 i hil k (by rw [hwv]; exact hk), fun e => h3.own.apart (i + 2) 0 (by omega) (by omega) (by omega) k (by show (wv i).ownBlock = _; rw [hwv]; exact hk) (by rw [e]; rfl)⟩
    have hzA : w3.heap.size ≤ (w3.drew.alloc (Obj.cells #[.int .i64 t, .int .i64 r, .int .i64 v] 111)).heap.size := bA.size
    have k6 : ∀ k, k < w3.heap.size → (Value.slice wa (tAt m.x i).w.length wcp).ownBlock ≠ some k → w6.heap[k]? = w3.heap[k]? := fun k h1 h2 => (hgr6.block k (Nat.lt_of_lt_of_le h1 hzA) (fun e => h2 e.symm)).trans (bA.block k h1)
    have hgw6 : (Value.slice wa (tAt m.x i).w.length wcp).ownBlock ≠ some g := fun e => (hww g e).2 rfl
    have hKw6 : (Value.slice wa (tAt m.x i).w.length wcp).ownBlock ≠ some w.heap.size := fun e => by have := (hww _ e).1; omega
    have hKl := cell_lt t0
    have u26 := cell_same (k6 g (by omega) hgw6) u2
    have t06 := cell_same (k6 _ hKl hKw6) t0
    have t16 := cell_same (k6 _ hKl hKw6) t1
    have hlen6 : ((tAt m.x i).w ++ [(⟨t, r, v⟩ : Rw)]).length = (tAt m.x i).w.length + 1 := by simp
    have hR6 : RowsAt base w6.heap.size w6 (.slice (some ⟨gg, 0, none⟩) ((tAt m.x i).w.length + 1) cap6) ((tAt m.x i).w ++ [⟨t, r, v⟩]) := by
      refine rows_ofOwns (l := (tAt m.x i).w ++ [⟨t, r, v⟩]) ?_ (by rw [hlen6]; omega)
      rw [hlen6, flat_append]
      exact hown6
    refine hK.out _ _ ⟨u26, t06, t16⟩ (fun hHeld2 => ?_)
    clear hK K hHeld1
    (try simp only [Act.put, List.setIfInBounds_toArray, List.set_cons_zero, List.set_cons_succ])
    refine stepL (i := 10) rfl (by kernel_rfl) (fun K hK => ?_)
    rw [if_pos (by rfl)]
    go_simp
    refine (l1rows_any _ ((tAt m.x i).w ++ [⟨t, r, v⟩]) w6 hR6 (by rw [hlen6]; omega)).mono ?_
    rintro e w7 ⟨ov, rfl, hown7, hb7⟩
    obtain ⟨N, hN⟩ : ∃ N, (wrL (tAt m.x i).w t r v).length = N := ⟨_, rfl⟩
    replace hown7 : w7.ownsRow w6.heap.size 111 3 ov N (flat (wrL (tAt m.x i).w t r v)) := by rw [← hN]; exact hown7
    obtain ⟨oa, oc, rfl⟩ := owns_sliceM hown7
    have HN : Hid ((wrL (tAt m.x i).w t r v).length = N) := hN
    clear hN
    have u27 := cell_stays hb7 u26
    have t07 := cell_stays hb7 t06
    have t17 := cell_stays hb7 t16
    refine hK.out _ _ ⟨u27, t07, t17⟩ (fun hHeld3 => ?_)
    clear hK K hHeld2
    (try simp only [Act.put, List.setIfInBounds_toArray, List.set_cons_zero, List.set_cons_succ])
    refine takeL (i := 11) (v := ?_) rfl (by kernel_rfl) (by kernel_rfl) (by kernel_rfl) (fun _ _ _ h => h) rfl (by assumption) ?_ ?_
    rotate_left
    · (intro wS hSw; (try dsimp only at hSw); go_simp; try with_reducible rfl)
    (try simp only [Act.put, List.setIfInBounds_toArray, List.set_cons_zero, List.set_cons_succ])
    refine takeL (i := 12) (v := ?_) rfl (by kernel_rfl) (by kernel_rfl) (by kernel_rfl) (fun _ _ _ h => h) rfl (by assumption) ?_ ?_
    rotate_left
    · (intro wS hSw; (try dsimp only at hSw); go_simp; try with_reducible rfl)
    (try simp only [Act.put, List.setIfInBounds_toArray, List.set_cons_zero, List.set_cons_succ])
    have hz67 := hb7.size
    have hz36 : w3.heap.size ≤ w6.heap.size := Nat.le_trans hzA hgr6.size
    have uf7 : w7.frozen? ⟨g, i * 3 + 2, none⟩ = false := by rw [hb7.frozen (by show g < _; omega), World.frozen?_of_block (k6 g (by omega) hgw6)]; exact uf
    have hgr7 : (w3.drew.alloc (Obj.cells #[.int .i64 t, .int .i64 r, .int .i64 v] 111)).grownBy w7 (wv i).ownBlock := ⟨hb7.os.trans hgr6.os, hb7.tape.trans hgr6.tape, hb7.output.trans hgr6.output, Nat.le_trans hgr6.size hz67, fun k hk hne => (hb7.block k (Nat.lt_of_lt_of_le hk hgr6.size)).trans (hgr6.block k hk (by rw [← hwv]; exact hne))⟩
    obtain ⟨P9, b9⟩ := h3.setW bA hil hgr7 (u := .slice oa N oc) (r := wrL (tAt m.x i).w t r v) (by rw [HN.out]; exact World.ownsRow.mono hown7 (by omega)) (fun q hq => .inr (by have := (owns_ltM hown7 hq).1; omega))
    refine wpAnyH_done (by kernel_rfl) ?_ _
    refine lastL (n := 13) rfl rfl ?_
    go_simp
    have b9' := b3.trans b9
    have t0' : (w7.setCell ⟨g, i * 3 + 2, none⟩ (.slice oa N oc)).cell? ⟨w.heap.size, 0, none⟩ = some (.int .i64 t) := cell_same (Below.heap_setCell _ _ _ _ (by show w.heap.size ≠ g; omega)) t07
    have t1' : (w7.setCell ⟨g, i * 3 + 2, none⟩ (.slice oa N oc)).cell? ⟨w.heap.size, 1, none⟩ = some (.int .i64 r) := cell_same (Below.heap_setCell _ _ _ _ (by show w.heap.size ≠ g; omega)) t17
    have hx9 : i < (putW m i (wrL (tAt m.x i).w t r v)).x.length := by simpa [putW] using hil
    obtain ⟨_, e2, _, s0', _⟩ := owns_cell P9.own.x (txc_get _ (wput i (.slice oa N oc) wv) hx9).1
    cases e2
    rw [show (tAt (putW m i (wrL (tAt m.x i).w t r v)).x i).i = tx by simp only [putW, tAt_set _ _ _ _ hil, if_true]; exact hie] at s0'
    clear hHeld3 u27 t07 t17 uf7 hgr7 hz36 hz67 hown7 hb7 hR6 hlen6 u26 t06 t16 k6 hzA hown6 hgr6 hat6 hlt6 hXA bA bD hbr hJ hj0 hj1 hj2 h3 b3 b9 t0 t1 u2 u0 v4 uf hWq hx9
    generalize w7.setCell ⟨g, i * 3 + 2, none⟩ (.slice oa N oc) = W9 at *
    go_wp2_with fail
    obtain ⟨c4, _⟩ := P9.cell (j := 4) (by omega)
    simp only [bxf] at c4
    obtain ⟨ti, hI, hz0, hz1, hz2⟩ := info_parts infoEv
    have hB9 := P9.box.lt
    have hzW : base ≤ W9.heap.size := by omega
    have hKl9 := cell_lt t0'
    have bD := (Below.refl W9.heap.size W9).drew
    have hbt := build_evW tx t r v
    refine region_last (fun x => x.cell? ⟨B, 4, none⟩ = some (.slice a3 m.h.length cap3) ∧ x.cell? ⟨w.heap.size, 0, none⟩ = some (.int .i64 t) ∧ x.cell? ⟨w.heap.size, 1, none⟩ = some (.int .i64 r) ∧ x.cell? ⟨g, i * 3, none⟩ = some (.int .i64 tx)) (by kernel_rfl) (by kernel_rfl) (by kernel_rfl) ⟨cell_stays bD c4, cell_stays bD t0', cell_stays bD t1', cell_stays bD s0'⟩ (fun hHeld0 => ?_)
    simp only [List.dropLast, List.length_cons, List.length_nil, Nat.reduceAdd]
    refine takeL (i := 0) (v := ?_) rfl (by kernel_rfl) (by kernel_rfl) (by kernel_rfl) (fun _ _ _ h => h) rfl (by assumption) ?_ ?_
    rotate_left
    · (intro wS hSw; (try dsimp only at hSw); go_simp; try with_reducible rfl)
    (try simp only [Act.put, List.setIfInBounds_toArray, List.set_cons_zero, List.set_cons_succ])
    refine takeL (i := 1) (v := ?_) rfl (by kernel_rfl) (by kernel_rfl) (by kernel_rfl) (fun _ _ _ h => h) rfl (by assumption) ?_ ?_
    rotate_left
    · (intro wS hSw; (try dsimp only at hSw); go_simp; try with_reducible rfl)
    (try simp only [Act.put, List.setIfInBounds_toArray, List.set_cons_zero, List.set_cons_succ])
    refine takeL (i := 2) (v := ?_) rfl (by kernel_rfl) (by kernel_rfl) (by kernel_rfl) (fun _ _ _ h => h) rfl (by assumption) ?_ ?_
    rotate_left
    · (intro wS hSw; (try dsimp only at hSw); go_simp; try with_reducible rfl)
    (try simp only [Act.put, List.setIfInBounds_toArray, List.set_cons_zero, List.set_cons_succ])
    refine takeL (i := 3) (v := ?_) rfl (by kernel_rfl) (by kernel_rfl) (by kernel_rfl) (fun _ _ _ h => h) rfl (by assumption) ?_ ?_
    rotate_left
    · (intro wS hSw; (try dsimp only at hSw); go_simp; try with_reducible rfl)
    (try simp only [Act.put, List.setIfInBounds_toArray, List.set_cons_zero, List.set_cons_succ])
    refine takeL (i := 4) (v := ?_) rfl (by kernel_rfl) (by kernel_rfl) (by kernel_rfl) (fun _ _ _ h => h) rfl (by assumption) ?_ ?_
    rotate_left
    · (intro wS hSw; (try dsimp only at hSw); go_simp; try with_reducible rfl)
    (try simp only [Act.put, List.setIfInBounds_toArray, List.set_cons_zero, List.set_cons_succ])
    refine takeL (i := 5) (v := ?_) rfl (by kernel_rfl) (by kernel_rfl) (by kernel_rfl) (fun _ _ _ h => h) rfl (by assumption) ?_ ?_
    rotate_left
    · (intro wS hSw; (try dsimp only at hSw); go_simp; try with_reducible rfl)
    (try simp only [Act.put, List.setIfInBounds_toArray, List.set_cons_zero, List.set_cons_succ])
    refine takeL (i := 6) (v := ?_) rfl (by kernel_rfl) (by kernel_rfl) (by kernel_rfl) (fun _ _ _ h => h) rfl (by assumption) ?_ ?_
    rotate_left
    · (intro wS hSw; (try dsimp only at hSw); go_simp; try with_reducible rfl)
    (try simp only [Act.put, List.setIfInBounds_toArray, List.set_cons_zero, List.set_cons_succ])
    refine takeL (i := 7) (v := ?_) rfl (by kernel_rfl) (by kernel_rfl) (by kernel_rfl) (fun _ _ _ h => h) rfl (by assumption) ?_ ?_
    rotate_left
    · (intro wS hSw; (try dsimp only at hSw); go_simp; try with_reducible rfl)
    (try simp only [Act.put, List.setIfInBounds_toArray, List.set_cons_zero, List.set_cons_succ])
    refine takeL (i := 8) (v := ?_) rfl (by kernel_rfl) (by kernel_rfl) (by kernel_rfl) (fun _ _ _ h => h) rfl (by assumption) ?_ ?_
    rotate_left
    · (intro wS hSw; (try dsimp only at hSw); go_simp; try with_reducible rfl)
    (try simp only [Act.put, List.setIfInBounds_toArray, List.set_cons_zero, List.set_cons_succ])
    refine takeL (i := 9) (v := ?_) rfl (by kernel_rfl) (by kernel_rfl) (by kernel_rfl) (fun _ _ _ h => h) rfl (by assumption) ?_ ?_
    rotate_left
    · (intro wS hSw; (try dsimp only at hSw); go_simp; try with_reducible rfl)
    (try simp only [Act.put, List.setIfInBounds_toArray, List.set_cons_zero, List.set_cons_succ])
    refine takeL (i := 10) (v := ?_) rfl (by kernel_rfl) (by kernel_rfl) (by kernel_rfl) (fun _ _ _ h => h) rfl (by assumption) ?_ ?_
    rotate_left
    · (intro wS hSw; (try dsimp only at hSw); go_simp; try with_reducible rfl)
    (try simp only [Act.put, List.setIfInBounds_toArray, List.set_cons_zero, List.set_cons_succ])
    refine takeL (i := 11) (v := ?_) rfl (by kernel_rfl) (by kernel_rfl) (by kernel_rfl) (fun _ _ _ h => h) rfl (by assumption) ?_ ?_
    rotate_left
    · (intro wS hSw; (try dsimp only at hSw); go_simp; try with_reducible rfl)
    (try simp only [Act.put, List.setIfInBounds_toArray, List.set_cons_zero, List.set_cons_succ])
    refine stepL (i := 12) rfl (by kernel_rfl) (fun K hK => ?_)
    rw [if_pos (by rfl)]
    go_simp
    have bA := bD.alloc (by exact Nat.le_refl _) (Obj.cells #[.int .i64 3, .int .i64 tx, .int .i64 t, .int .i64 r, .int .i64 v, .int .i64 0] 101)
    refine hK.out _ _ ⟨cell_stays bA c4, cell_stays bA t0', cell_stays bA t1', cell_stays bA s0'⟩ (fun hHeld1 => ?_)
    clear hK K hHeld0
    (try simp only [Act.put, List.setIfInBounds_toArray, List.set_cons_zero, List.set_cons_succ])
    refine stepL (i := 13) rfl (by kernel_rfl) (fun K hK => ?_)
    have hXA := owns_keepM P9.own.h fun g hg hl => bA.block g hl
    refine step_append_lies _ (by rfl) _ _ _ (by rfl) base 101 ti _ 6 48 Tryz.underlying34 hI hz0 hz1 hz2 rfl (by omega) (.slice a3 m.h.length cap3) m.h.length (hexa m.h) (by rfl) hXA ⟨W9.heap.size, 0, none⟩ 1 1 [.int .i64 3, .int .i64 tx, .int .i64 t, .int .i64 r, .int .i64 v, .int .i64 0] (by rfl) (by rfl) (newsM W9.drew _ _) (by intro u hu; simp at hu; rcases hu with rfl | rfl | rfl | rfl | rfl | rfl <;> rfl) (by omega) (by unfold maxLen; omega) (by omega) (by simp; omega) (W9.heap.size + 1) (by simp) ?_
    intro gg cap5 w6 hown6 hgrow6 hat6 hlt6
    have hnB := P9.apart 1 (by omega)
    have k5 : ∀ b, b < W9.heap.size → (Value.slice a3 m.h.length cap3).ownBlock ≠ some b → ∀ (o : Nat) (u : Value), W9.cell? ⟨b, o, none⟩ = some u → w6.cell? ⟨b, o, none⟩ = some u := fun b hb hne o u hu => cell_same (hgrow6.block b (Nat.lt_of_lt_of_le hb (by have := bA.size; exact this)) (fun e => hne e.symm)) (cell_stays bA hu)
    have hnK : (Value.slice a3 m.h.length cap3).ownBlock ≠ some w.heap.size := fun e => by have := hvl _ e; omega
    refine hK.out _ _ ⟨k5 B hB9 hnB _ _ c4, k5 _ hKl9 hnK _ _ t0', k5 _ hKl9 hnK _ _ t1', k5 _ (cell_lt s0') (fun e => P9.own.apart 1 0 (by omega) (by omega) (by omega) g e rfl) _ _ s0'⟩ (fun hHeld2 => ?_)
    clear hK K hHeld1
    (try simp only [Act.put, List.setIfInBounds_toArray, List.set_cons_zero, List.set_cons_succ])
    refine takeL (i := 14) (v := ?_) rfl (by kernel_rfl) (by kernel_rfl) (by kernel_rfl) (fun _ _ _ h => h) rfl (by assumption) ?_ ?_
    rotate_left
    · (intro wS hSw; (try dsimp only at hSw); go_simp; try with_reducible rfl)
    (try simp only [Act.put, List.setIfInBounds_toArray, List.set_cons_zero, List.set_cons_succ])
    refine takeL (i := 15) (v := ?_) rfl (by kernel_rfl) (by kernel_rfl) (by kernel_rfl) (fun _ _ _ h => h) rfl (by assumption) ?_ ?_
    rotate_left
    · (intro wS hSw; (try dsimp only at hSw); go_simp; try with_reducible rfl)
    (try simp only [Act.put, List.setIfInBounds_toArray, List.set_cons_zero, List.set_cons_succ])
    have hB5 := P9.box.of_block (show w6.heap[B]? = W9.heap[B]? from (hgrow6.block B (Nat.lt_of_lt_of_le hB9 (by have := bA.size; exact this)) (fun e => hnB e.symm)).trans (bA.block B hB9))
    have q4 := hB5.cell (show 4 < 5 by omega)
    have qf := hB5.frozen 4
    obtain ⟨P11, bP11⟩ := P9.pushEv (x := ⟨3, tx, t, r, v, 0⟩) bA hgrow6 hown6 (by rcases hat6 with e | e; exact .inl e; exact .inr (by omega))
    refine wpAnyH_done (by kernel_rfl) ?_ _
    refine lastL (n := 16) rfl rfl ?_
    go_simp
    have b11 := b9'.trans bP11
    clear hHeld2 q4 qf hB5 k5 hnB hnK hlt6 hat6 hgrow6 hown6 hXA bA bD hbt hI hz0 hz1 hz2 c4 P9 b9' t0' t1' s0' bP11
    go_wp2
    go_ret
    exact ⟨b11, wrM m tx i t r v, 0, .inl ⟨HO.out, HT.out, HH.out, i, HI.out, HNF2.out, rfl, rfl⟩, rfl, .inl ⟨rfl, _, _, _, _, _, _, P11⟩⟩
  · have hbr := build_rowKV t r v
    have bD := (Below.refl w3.heap.size w3).drew
    obtain ⟨tj, hJ, hj0, hj1, hj2⟩ := info_parts infoRowU
    go_wp2_with fail
    refine region_last (fun x => x.cell? ⟨g, i * 3 + 2, none⟩ = some (.slice wa (tAt m.x i).w.length wcp) ∧ x.cell? ⟨w.heap.size, 0, none⟩ = some (.int .i64 t) ∧ x.cell? ⟨w.heap.size, 1, none⟩ = some (.int .i64 r)) (by kernel_rfl) (by kernel_rfl) (by kernel_rfl) ⟨cell_stays bD u2, cell_stays bD t0, cell_stays bD t1⟩ (fun hHeld0 => ?_)
    simp only [List.dropLast, List.length_cons, List.length_nil, Nat.reduceAdd]
    refine takeL (i := 0) (v := ?_) rfl (by kernel_rfl) (by kernel_rfl) (by kernel_rfl) (fun _ _ _ h => h) rfl (by assumption) ?_ ?_
    rotate_left
    · (intro wS hSw; (try dsimp only at hSw); go_simp; try with_reducible rfl)
    (try simp only [Act.put, List.setIfInBounds_toArray, List.set_cons_zero, List.set_cons_succ])
    refine takeL (i := 1) (v := ?_) rfl (by kernel_rfl) (by kernel_rfl) (by kernel_rfl) (fun _ _ _ h => h) rfl (by assumption) ?_ ?_
    rotate_left
    · (intro wS hSw; (try dsimp only at hSw); go_simp; try with_reducible rfl)
    (try simp only [Act.put, List.setIfInBounds_toArray, List.set_cons_zero, List.set_cons_succ])
    refine takeL (i := 2) (v := ?_) rfl (by kernel_rfl) (by kernel_rfl) (by kernel_rfl) (fun _ _ _ h => h) rfl (by assumption) ?_ ?_
    rotate_left
    · (intro wS hSw; (try dsimp only at hSw); go_simp; try with_reducible rfl)
    (try simp only [Act.put, List.setIfInBounds_toArray, List.set_cons_zero, List.set_cons_succ])
    refine takeL (i := 3) (v := ?_) rfl (by kernel_rfl) (by kernel_rfl) (by kernel_rfl) (fun _ _ _ h => h) rfl (by assumption) ?_ ?_
    rotate_left
    · (intro wS hSw; (try dsimp only at hSw); go_simp; try with_reducible rfl)
    (try simp only [Act.put, List.setIfInBounds_toArray, List.set_cons_zero, List.set_cons_succ])
    refine takeL (i := 4) (v := ?_) rfl (by kernel_rfl) (by kernel_rfl) (by kernel_rfl) (fun _ _ _ h => h) rfl (by assumption) ?_ ?_
    rotate_left
    · (intro wS hSw; (try dsimp only at hSw); go_simp; try with_reducible rfl)
    (try simp only [Act.put, List.setIfInBounds_toArray, List.set_cons_zero, List.set_cons_succ])
    refine takeL (i := 5) (v := ?_) rfl (by kernel_rfl) (by kernel_rfl) (by kernel_rfl) (fun _ _ _ h => h) rfl (by assumption) ?_ ?_
    rotate_left
    · (intro wS hSw; (try dsimp only at hSw); go_simp; try with_reducible rfl)
    (try simp only [Act.put, List.setIfInBounds_toArray, List.set_cons_zero, List.set_cons_succ])
    refine takeL (i := 6) (v := ?_) rfl (by kernel_rfl) (by kernel_rfl) (by kernel_rfl) (fun _ _ _ h => h) rfl (by assumption) ?_ ?_
    rotate_left
    · (intro wS hSw; (try dsimp only at hSw); go_simp; try with_reducible rfl)
    (try simp only [Act.put, List.setIfInBounds_toArray, List.set_cons_zero, List.set_cons_succ])
    refine takeL (i := 7) (v := ?_) rfl (by kernel_rfl) (by kernel_rfl) (by kernel_rfl) (fun _ _ _ h => h) rfl (by assumption) ?_ ?_
    rotate_left
    · (intro wS hSw; (try dsimp only at hSw); go_simp; try with_reducible rfl)
    (try simp only [Act.put, List.setIfInBounds_toArray, List.set_cons_zero, List.set_cons_succ])
    refine stepL (i := 8) rfl (by kernel_rfl) (fun K hK => ?_)
    rw [if_pos (by rfl)]
    go_simp
    have bA := bD.alloc (by exact Nat.le_refl _) (Obj.cells #[.int .i64 t, .int .i64 r, .int .i64 v] 111)
    refine hK.out _ _ ⟨cell_stays bA u2, cell_stays bA t0, cell_stays bA t1⟩ (fun hHeld1 => ?_)
    clear hK K hHeld0
    (try simp only [Act.put, List.setIfInBounds_toArray, List.set_cons_zero, List.set_cons_succ])
    refine stepL (i := 9) rfl (by kernel_rfl) (fun K hK => ?_)
    have hXA := owns_keepM (h3.own.xw i hil) fun k hk hl => bA.block k hl
    rw [hwv] at hXA
    refine step_append_lies _ (by rfl) _ _ _ (by rfl) base 111 tj _ 3 24 Tryz.underlying95 hJ hj0 hj1 hj2 rfl (by omega) (.slice wa (tAt m.x i).w.length wcp) (tAt m.x i).w.length (flat (tAt m.x i).w) (by rfl) hXA ⟨w3.heap.size, 0, none⟩ 1 1 [.int .i64 t, .int .i64 r, .int .i64 v] (by rfl) (by rfl) (newsM w3.drew _ _) (by intro u hu; simp at hu; rcases hu with rfl | rfl | rfl <;> rfl) (by omega) (by unfold maxLen; omega) (by omega) (by simp; omega) (w3.heap.size + 1) (by simp) ?_
    intro gg cap6 w6 hown6 hgr6 hat6 hlt6
    have hww : ∀ k, (Value.slice wa (tAt m.x i).w.length wcp).ownBlock = some k → k < w.heap.size ∧ k ≠ g := fun k hk => ⟨hwl0 i hil k (by rw [hwv]; exact hk), fun e => h3.own.apart (i + 2) 0 (by omega) (by omega) (by omega) k (by show (wv i).ownBlock = _; rw [hwv]; exact hk) (by rw [e]; rfl)⟩
    have hzA : w3.heap.size ≤ (w3.drew.alloc (Obj.cells #[.int .i64 t, .int .i64 r, .int .i64 v] 111)).heap.size := bA.size
    have k6 : ∀ k, k < w3.heap.size → (Value.slice wa (tAt m.x i).w.length wcp).ownBlock ≠ some k → w6.heap[k]? = w3.heap[k]? := fun k h1 h2 => (hgr6.block k (Nat.lt_of_lt_of_le h1 hzA) (fun e => h2 e.symm)).trans (bA.block k h1)
    have hgw6 : (Value.slice wa (tAt m.x i).w.length wcp).ownBlock ≠ some g := fun e => (hww g e).2 rfl
    have hKw6 : (Value.slice wa (tAt m.x i).w.length wcp).ownBlock ≠ some w.heap.size := fun e => by have := (hww _ e).1; omega
    have hKl := cell_lt t0
    have u26 := cell_same (k6 g (by omega) hgw6) u2
    have t06 := cell_same (k6 _ hKl hKw6) t0
    have t16 := cell_same (k6 _ hKl hKw6) t1
    have hlen6 : ((tAt m.x i).w ++ [(⟨t, r, v⟩ : Rw)]).length = (tAt m.x i).w.length + 1 := by simp
    have hR6 : RowsAt base w6.heap.size w6 (.slice (some ⟨gg, 0, none⟩) ((tAt m.x i).w.length + 1) cap6) ((tAt m.x i).w ++ [⟨t, r, v⟩]) := by
      refine rows_ofOwns (l := (tAt m.x i).w ++ [⟨t, r, v⟩]) ?_ (by rw [hlen6]; omega)
      rw [hlen6, flat_append]
      exact hown6
    refine hK.out _ _ ⟨u26, t06, t16⟩ (fun hHeld2 => ?_)
    clear hK K hHeld1
    (try simp only [Act.put, List.setIfInBounds_toArray, List.set_cons_zero, List.set_cons_succ])
    refine stepL (i := 10) rfl (by kernel_rfl) (fun K hK => ?_)
    rw [if_pos (by rfl)]
    go_simp
    refine (l1rows_any _ ((tAt m.x i).w ++ [⟨t, r, v⟩]) w6 hR6 (by rw [hlen6]; omega)).mono ?_
    rintro e w7 ⟨ov, rfl, hown7, hb7⟩
    obtain ⟨N, hN⟩ : ∃ N, (wrL (tAt m.x i).w t r v).length = N := ⟨_, rfl⟩
    replace hown7 : w7.ownsRow w6.heap.size 111 3 ov N (flat (wrL (tAt m.x i).w t r v)) := by rw [← hN]; exact hown7
    obtain ⟨oa, oc, rfl⟩ := owns_sliceM hown7
    have HN : Hid ((wrL (tAt m.x i).w t r v).length = N) := hN
    clear hN
    have u27 := cell_stays hb7 u26
    have t07 := cell_stays hb7 t06
    have t17 := cell_stays hb7 t16
    refine hK.out _ _ ⟨u27, t07, t17⟩ (fun hHeld3 => ?_)
    clear hK K hHeld2
    (try simp only [Act.put, List.setIfInBounds_toArray, List.set_cons_zero, List.set_cons_succ])
    refine takeL (i := 11) (v := ?_) rfl (by kernel_rfl) (by kernel_rfl) (by kernel_rfl) (fun _ _ _ h => h) rfl (by assumption) ?_ ?_
    rotate_left
    · (intro wS hSw; (try dsimp only at hSw); go_simp; try with_reducible rfl)
    (try simp only [Act.put, List.setIfInBounds_toArray, List.set_cons_zero, List.set_cons_succ])
    refine takeL (i := 12) (v := ?_) rfl (by kernel_rfl) (by kernel_rfl) (by kernel_rfl) (fun _ _ _ h => h) rfl (by assumption) ?_ ?_
    rotate_left
    · (intro wS hSw; (try dsimp only at hSw); go_simp; try with_reducible rfl)
    (try simp only [Act.put, List.setIfInBounds_toArray, List.set_cons_zero, List.set_cons_succ])
    have hz67 := hb7.size
    have hz36 : w3.heap.size ≤ w6.heap.size := Nat.le_trans hzA hgr6.size
    have uf7 : w7.frozen? ⟨g, i * 3 + 2, none⟩ = false := by rw [hb7.frozen (by show g < _; omega), World.frozen?_of_block (k6 g (by omega) hgw6)]; exact uf
    have hgr7 : (w3.drew.alloc (Obj.cells #[.int .i64 t, .int .i64 r, .int .i64 v] 111)).grownBy w7 (wv i).ownBlock := ⟨hb7.os.trans hgr6.os, hb7.tape.trans hgr6.tape, hb7.output.trans hgr6.output, Nat.le_trans hgr6.size hz67, fun k hk hne => (hb7.block k (Nat.lt_of_lt_of_le hk hgr6.size)).trans (hgr6.block k hk (by rw [← hwv]; exact hne))⟩
    obtain ⟨P9, b9⟩ := h3.setW bA hil hgr7 (u := .slice oa N oc) (r := wrL (tAt m.x i).w t r v) (by rw [HN.out]; exact World.ownsRow.mono hown7 (by omega)) (fun q hq => .inr (by have := (owns_ltM hown7 hq).1; omega))
    refine wpAnyH_done (by kernel_rfl) ?_ _
    refine lastL (n := 13) rfl rfl ?_
    go_simp
    have b9' := b3.trans b9
    have t0' : (w7.setCell ⟨g, i * 3 + 2, none⟩ (.slice oa N oc)).cell? ⟨w.heap.size, 0, none⟩ = some (.int .i64 t) := cell_same (Below.heap_setCell _ _ _ _ (by show w.heap.size ≠ g; omega)) t07
    have t1' : (w7.setCell ⟨g, i * 3 + 2, none⟩ (.slice oa N oc)).cell? ⟨w.heap.size, 1, none⟩ = some (.int .i64 r) := cell_same (Below.heap_setCell _ _ _ _ (by show w.heap.size ≠ g; omega)) t17
    have hx9 : i < (putW m i (wrL (tAt m.x i).w t r v)).x.length := by simpa [putW] using hil
    obtain ⟨_, e2, _, s0', _⟩ := owns_cell P9.own.x (txc_get _ (wput i (.slice oa N oc) wv) hx9).1
    cases e2
    rw [show (tAt (putW m i (wrL (tAt m.x i).w t r v)).x i).i = tx by simp only [putW, tAt_set _ _ _ _ hil, if_true]; exact hie] at s0'
    clear hHeld3 u27 t07 t17 uf7 hgr7 hz36 hz67 hown7 hb7 hR6 hlen6 u26 t06 t16 k6 hzA hown6 hgr6 hat6 hlt6 hXA bA bD hbr hJ hj0 hj1 hj2 h3 b3 b9 t0 t1 u2 u0 v4 uf hWq hx9
    generalize w7.setCell ⟨g, i * 3 + 2, none⟩ (.slice oa N oc) = W9 at *
    go_wp2_with fail
    obtain ⟨c4, _⟩ := P9.cell (j := 4) (by omega)
    simp only [bxf] at c4
    obtain ⟨ti, hI, hz0, hz1, hz2⟩ := info_parts infoEv
    have hB9 := P9.box.lt
    have hzW : base ≤ W9.heap.size := by omega
    have hKl9 := cell_lt t0'
    have bD := (Below.refl W9.heap.size W9).drew
    have hbt := build_evW tx t r v
    refine region_last (fun x => x.cell? ⟨B, 4, none⟩ = some (.slice a3 m.h.length cap3) ∧ x.cell? ⟨w.heap.size, 0, none⟩ = some (.int .i64 t) ∧ x.cell? ⟨w.heap.size, 1, none⟩ = some (.int .i64 r) ∧ x.cell? ⟨g, i * 3, none⟩ = some (.int .i64 tx)) (by kernel_rfl) (by kernel_rfl) (by kernel_rfl) ⟨cell_stays bD c4, cell_stays bD t0', cell_stays bD t1', cell_stays bD s0'⟩ (fun hHeld0 => ?_)
    simp only [List.dropLast, List.length_cons, List.length_nil, Nat.reduceAdd]
    refine takeL (i := 0) (v := ?_) rfl (by kernel_rfl) (by kernel_rfl) (by kernel_rfl) (fun _ _ _ h => h) rfl (by assumption) ?_ ?_
    rotate_left
    · (intro wS hSw; (try dsimp only at hSw); go_simp; try with_reducible rfl)
    (try simp only [Act.put, List.setIfInBounds_toArray, List.set_cons_zero, List.set_cons_succ])
    refine takeL (i := 1) (v := ?_) rfl (by kernel_rfl) (by kernel_rfl) (by kernel_rfl) (fun _ _ _ h => h) rfl (by assumption) ?_ ?_
    rotate_left
    · (intro wS hSw; (try dsimp only at hSw); go_simp; try with_reducible rfl)
    (try simp only [Act.put, List.setIfInBounds_toArray, List.set_cons_zero, List.set_cons_succ])
    refine takeL (i := 2) (v := ?_) rfl (by kernel_rfl) (by kernel_rfl) (by kernel_rfl) (fun _ _ _ h => h) rfl (by assumption) ?_ ?_
    rotate_left
    · (intro wS hSw; (try dsimp only at hSw); go_simp; try with_reducible rfl)
    (try simp only [Act.put, List.setIfInBounds_toArray, List.set_cons_zero, List.set_cons_succ])
    refine takeL (i := 3) (v := ?_) rfl (by kernel_rfl) (by kernel_rfl) (by kernel_rfl) (fun _ _ _ h => h) rfl (by assumption) ?_ ?_
    rotate_left
    · (intro wS hSw; (try dsimp only at hSw); go_simp; try with_reducible rfl)
    (try simp only [Act.put, List.setIfInBounds_toArray, List.set_cons_zero, List.set_cons_succ])
    refine takeL (i := 4) (v := ?_) rfl (by kernel_rfl) (by kernel_rfl) (by kernel_rfl) (fun _ _ _ h => h) rfl (by assumption) ?_ ?_
    rotate_left
    · (intro wS hSw; (try dsimp only at hSw); go_simp; try with_reducible rfl)
    (try simp only [Act.put, List.setIfInBounds_toArray, List.set_cons_zero, List.set_cons_succ])
    refine takeL (i := 5) (v := ?_) rfl (by kernel_rfl) (by kernel_rfl) (by kernel_rfl) (fun _ _ _ h => h) rfl (by assumption) ?_ ?_
    rotate_left
    · (intro wS hSw; (try dsimp only at hSw); go_simp; try with_reducible rfl)
    (try simp only [Act.put, List.setIfInBounds_toArray, List.set_cons_zero, List.set_cons_succ])
    refine takeL (i := 6) (v := ?_) rfl (by kernel_rfl) (by kernel_rfl) (by kernel_rfl) (fun _ _ _ h => h) rfl (by assumption) ?_ ?_
    rotate_left
    · (intro wS hSw; (try dsimp only at hSw); go_simp; try with_reducible rfl)
    (try simp only [Act.put, List.setIfInBounds_toArray, List.set_cons_zero, List.set_cons_succ])
    refine takeL (i := 7) (v := ?_) rfl (by kernel_rfl) (by kernel_rfl) (by kernel_rfl) (fun _ _ _ h => h) rfl (by assumption) ?_ ?_
    rotate_left
    · (intro wS hSw; (try dsimp only at hSw); go_simp; try with_reducible rfl)
    (try simp only [Act.put, List.setIfInBounds_toArray, List.set_cons_zero, List.set_cons_succ])
    refine takeL (i := 8) (v := ?_) rfl (by kernel_rfl) (by kernel_rfl) (by kernel_rfl) (fun _ _ _ h => h) rfl (by assumption) ?_ ?_
    rotate_left
    · (intro wS hSw; (try dsimp only at hSw); go_simp; try with_reducible rfl)
    (try simp only [Act.put, List.setIfInBounds_toArray, List.set_cons_zero, List.set_cons_succ])
    refine takeL (i := 9) (v := ?_) rfl (by kernel_rfl) (by kernel_rfl) (by kernel_rfl) (fun _ _ _ h => h) rfl (by assumption) ?_ ?_
    rotate_left
    · (intro wS hSw; (try dsimp only at hSw); go_simp; try with_reducible rfl)
    (try simp only [Act.put, List.setIfInBounds_toArray, List.set_cons_zero, List.set_cons_succ])
    refine takeL (i := 10) (v := ?_) rfl (by kernel_rfl) (by kernel_rfl) (by kernel_rfl) (fun _ _ _ h => h) rfl (by assumption) ?_ ?_
    rotate_left
    · (intro wS hSw; (try dsimp only at hSw); go_simp; try with_reducible rfl)
    (try simp only [Act.put, List.setIfInBounds_toArray, List.set_cons_zero, List.set_cons_succ])
    refine takeL (i := 11) (v := ?_) rfl (by kernel_rfl) (by kernel_rfl) (by kernel_rfl) (fun _ _ _ h => h) rfl (by assumption) ?_ ?_
    rotate_left
    · (intro wS hSw; (try dsimp only at hSw); go_simp; try with_reducible rfl)
    (try simp only [Act.put, List.setIfInBounds_toArray, List.set_cons_zero, List.set_cons_succ])
    refine stepL (i := 12) rfl (by kernel_rfl) (fun K hK => ?_)
    rw [if_pos (by rfl)]
    go_simp
    have bA := bD.alloc (by exact Nat.le_refl _) (Obj.cells #[.int .i64 3, .int .i64 tx, .int .i64 t, .int .i64 r, .int .i64 v, .int .i64 0] 101)
    refine hK.out _ _ ⟨cell_stays bA c4, cell_stays bA t0', cell_stays bA t1', cell_stays bA s0'⟩ (fun hHeld1 => ?_)
    clear hK K hHeld0
    (try simp only [Act.put, List.setIfInBounds_toArray, List.set_cons_zero, List.set_cons_succ])
    refine stepL (i := 13) rfl (by kernel_rfl) (fun K hK => ?_)
    have hXA := owns_keepM P9.own.h fun g hg hl => bA.block g hl
    refine step_append_lies _ (by rfl) _ _ _ (by rfl) base 101 ti _ 6 48 Tryz.underlying34 hI hz0 hz1 hz2 rfl (by omega) (.slice a3 m.h.length cap3) m.h.length (hexa m.h) (by rfl) hXA ⟨W9.heap.size, 0, none⟩ 1 1 [.int .i64 3, .int .i64 tx, .int .i64 t, .int .i64 r, .int .i64 v, .int .i64 0] (by rfl) (by rfl) (newsM W9.drew _ _) (by intro u hu; simp at hu; rcases hu with rfl | rfl | rfl | rfl | rfl | rfl <;> rfl) (by omega) (by unfold maxLen; omega) (by omega) (by simp; omega) (W9.heap.size + 1) (by simp) ?_
    intro gg cap5 w6 hown6 hgrow6 hat6 hlt6
    have hnB := P9.apart 1 (by omega)
    have k5 : ∀ b, b < W9.heap.size → (Value.slice a3 m.h.length cap3).ownBlock ≠ some b → ∀ (o : Nat) (u : Value), W9.cell? ⟨b, o, none⟩ = some u → w6.cell? ⟨b, o, none⟩ = some u := fun b hb hne o u hu => cell_same (hgrow6.block b (Nat.lt_of_lt_of_le hb (by have := bA.size; exact this)) (fun e => hne e.symm)) (cell_stays bA hu)
    have hnK : (Value.slice a3 m.h.length cap3).ownBlock ≠ some w.heap.size := fun e => by have := hvl _ e; omega
    refine hK.out _ _ ⟨k5 B hB9 hnB _ _ c4, k5 _ hKl9 hnK _ _ t0', k5 _ hKl9 hnK _ _ t1', k5 _ (cell_lt s0') (fun e => P9.own.apart 1 0 (by omega) (by omega) (by omega) g e rfl) _ _ s0'⟩ (fun hHeld2 => ?_)
    clear hK K hHeld1
    (try simp only [Act.put, List.setIfInBounds_toArray, List.set_cons_zero, List.set_cons_succ])
    refine takeL (i := 14) (v := ?_) rfl (by kernel_rfl) (by kernel_rfl) (by kernel_rfl) (fun _ _ _ h => h) rfl (by assumption) ?_ ?_
    rotate_left
    · (intro wS hSw; (try dsimp only at hSw); go_simp; try with_reducible rfl)
    (try simp only [Act.put, List.setIfInBounds_toArray, List.set_cons_zero, List.set_cons_succ])
    refine takeL (i := 15) (v := ?_) rfl (by kernel_rfl) (by kernel_rfl) (by kernel_rfl) (fun _ _ _ h => h) rfl (by assumption) ?_ ?_
    rotate_left
    · (intro wS hSw; (try dsimp only at hSw); go_simp; try with_reducible rfl)
    (try simp only [Act.put, List.setIfInBounds_toArray, List.set_cons_zero, List.set_cons_succ])
    have hB5 := P9.box.of_block (show w6.heap[B]? = W9.heap[B]? from (hgrow6.block B (Nat.lt_of_lt_of_le hB9 (by have := bA.size; exact this)) (fun e => hnB e.symm)).trans (bA.block B hB9))
    have q4 := hB5.cell (show 4 < 5 by omega)
    have qf := hB5.frozen 4
    obtain ⟨P11, bP11⟩ := P9.pushEv (x := ⟨3, tx, t, r, v, 0⟩) bA hgrow6 hown6 (by rcases hat6 with e | e; exact .inl e; exact .inr (by omega))
    refine wpAnyH_done (by kernel_rfl) ?_ _
    refine lastL (n := 16) rfl rfl ?_
    go_simp
    have b11 := b9'.trans bP11
    clear hHeld2 q4 qf hB5 k5 hnB hnK hlt6 hat6 hgrow6 hown6 hXA bA bD hbt hI hz0 hz1 hz2 c4 P9 b9' t0' t1' s0' bP11
    go_wp2
    go_ret
    exact ⟨b11, wrM m tx i t r v, 0, .inl ⟨HO.out, HT.out, HH.out, i, HI.out, HNF2.out, rfl, rfl⟩, rfl, .inl ⟨rfl, _, _, _, _, _, _, P11⟩⟩
theorem l2write_in (base B s0 s1 : Nat) (vs vt ve : Value) (m : Md) (wv : Nat → Value) (tx t r v : Int) (i : Nat) (w : World) (h : PtrM base w B s0 s1 vs vt ve m wv) (hn : SmallM' m) (hok : mgrOk m) (hi : IsTx m tx i) (ht : tabB t = true) :
    Calls Tryz.prog 49 #[.pointer (some ⟨B, 0, none⟩), .int .i64 (i : Int), .agg #[.int .i64 t, .int .i64 r], .int .i64 v] w fun e w' => Below base w w' ∧ ∃ x code, RW m x tx t r v code ∧ e = .returned (.int .i64 code) ∧ ((code = 0 ∧ ∃ s0 s1 vs vt ve wv, PtrM base w' B s0 s1 vs vt ve x wv) ∨ (code ≠ 0 ∧ x = md0)) := l2write_p base B s0 s1 vs vt ve m wv tx t r v i w h hn hok hi ht
end Go.Proofs.YtmecbppblbmchaaGreatDoor
