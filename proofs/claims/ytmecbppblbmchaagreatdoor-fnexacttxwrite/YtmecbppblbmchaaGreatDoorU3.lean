import Derived.Test.YtmecbppblbmchaaGreatDoorM4
import Derived.Test.YtmecbppblbmchaaGreatDoorU0
import Derived.Test.YtmecbppblbmchaaGreatDoorT1
import Derived.Test.YtmecbppblbmchaaGreatDoorM3
/- What a call on the copy of a state leaves. -/
namespace Go.Proofs.YtmecbppblbmchaaGreatDoor
open Go.ChangeShapes Go.WideShapes Go.ChangeAt Go.RowKit Go.Sort
set_option linter.unusedVariables false

/-- What a call on the copy leaves: the state anew, or nothing and a refusal. -/
def InM (base B : Nat) (w : World) (e : Ending) (x : Md) (code : Int) : Prop := (code = 0 ∧ e = .returned .nilIface ∧ ∃ s0 s1 vs vt ve wv, PtrM base w B s0 s1 vs vt ve x wv) ∨ (x = md0 ∧ e = .returned (refE code))
end Go.Proofs.YtmecbppblbmchaaGreatDoor

/- The program's writeRow, on a state behind a pointer. -/
namespace Go.Proofs.YtmecbppblbmchaaGreatDoor
open Go.ChangeShapes Go.WideShapes Go.ChangeAt Go.RowKit Go.Sort
set_option linter.unusedVariables false
set_option maxRecDepth 100000
attribute [local go_sem ↓] Go.wp_at_zero Go.wp_at_succ

/-- The state when transaction i has written v at (t, r). -/
def wrM (m : Md) (tx : Int) (i : Nat) (t r v : Int) : Md := { putW m i (wrL (tAt m.x i).w t r v) with h := m.h ++ [⟨3, tx, t, r, v, 0⟩] }
/-- There is no room for one more row. -/
def FullW (m : Md) (i : Nat) (t r : Int) : Prop := (∀ j, ¬ AtK (tAt m.x i).w t r j) ∧ (tAt m.x i).w.length = 60
/-- What TxWrite comes to. -/
def RW (m x : Md) (tx t r v code : Int) : Prop :=
  (mgrOk m ∧ tabB t = true ∧ m.h.length ≤ 2998 ∧ ∃ i, IsTx m tx i ∧ ¬ FullW m i t r ∧ x = wrM m tx i t r v ∧ code = 0) ∨
  ((¬ mgrOk m ∨ NoTx m tx ∨ ¬ tabB t = true) ∧ x = md0 ∧ code = 1) ∨
  (mgrOk m ∧ tabB t = true ∧ (∃ i, IsTx m tx i ∧ (¬ m.h.length ≤ 2998 ∨ FullW m i t r)) ∧ x = md0 ∧ code = 2)
theorem noTx_not3 {m : Md} {tx : Int} {i : Nat} (h : NoTx m tx) (hi : IsTx m tx i) : False := h i hi.1 hi.2.1
theorem RW.one {m x x' : Md} {tx t r v code code' : Int} (h : RW m x tx t r v code) (h' : RW m x' tx t r v code') : x = x' ∧ code = code' := by
  rcases h with ⟨a, b, c, i, hi, hf, rfl, rfl⟩ | ⟨a, rfl, rfl⟩ | ⟨a, b, ⟨i, hi, hf⟩, rfl, rfl⟩ <;> rcases h' with ⟨a', b', c', i', hi', hf', rfl, rfl⟩ | ⟨a', rfl, rfl⟩ | ⟨a', b', ⟨i', hi', hf'⟩, rfl, rfl⟩
  · rw [hi.one hi']; exact ⟨rfl, rfl⟩
  · rcases a' with h | h | h
    · exact absurd a h
    · exact (noTx_not3 h hi).elim
    · exact absurd b h
  · obtain rfl := hi.one hi'
    rcases hf' with h | h
    · exact absurd c h
    · exact absurd h hf
  · rcases a with h | h | h
    · exact absurd a' h
    · exact (noTx_not3 h hi').elim
    · exact absurd b' h
  · exact ⟨rfl, rfl⟩
  · rcases a with h | h | h
    · exact absurd a' h
    · exact (noTx_not3 h hi').elim
    · exact absurd b' h
  · obtain rfl := hi.one hi'
    rcases hf with h | h
    · exact absurd c' h
    · exact absurd h hf'
  · rcases a' with h | h | h
    · exact absurd a h
    · exact (noTx_not3 h hi).elim
    · exact absurd b h
  · exact ⟨rfl, rfl⟩
theorem putW_put (m : Md) {i : Nat} (hi : i < m.x.length) (a b : List Rw) : putW (putW m i a) i b = putW m i b := by
  simp only [putW, tAt_set _ _ _ _ hi, if_true, List.set_set]
theorem putW_w (m : Md) {i : Nat} (hi : i < m.x.length) (a : List Rw) : (tAt (putW m i a).x i).w = a := by
  simp only [putW, tAt_set _ _ _ _ hi, if_true]
theorem build_evW (x t r v : Int) (w : World) : (Instr.build 101 #[(0, .int .i64 3), (1, .int .i64 x), (2, .agg #[.int .i64 t, .int .i64 r]), (3, .int .i64 v)]).run Tryz.prog w = .ok (.agg #[.int .i64 3, .int .i64 x, .int .i64 t, .int .i64 r, .int .i64 v, .int .i64 0]) w := by kernel_rfl
theorem build_rowK (t r : Int) (w : World) : (Instr.build 111 #[(0, .agg #[.int .i64 t, .int .i64 r])]).run Tryz.prog w = .ok (.agg #[.int .i64 t, .int .i64 r, .int .i64 0]) w := by kernel_rfl

theorem insertRow_any (g vb : Nat) (l : List Rw) (x : Rw) (i c : Nat) (w : World) {base : Nat} (hi : i ≤ l.length) (hn : l.length ≤ 1048576) (hbase : base ≤ w.heap.size) (hc : c = l.length)
    (h : w.ownsRow base 111 3 (.slice (some ⟨g, 0, none⟩) l.length c) l.length (flat l)) (hv : w.heap[vb]? = some (.cells (cells3 x).toArray 111 (0, 0))) :
    Calls Tryz.prog 85 #[.slice (some ⟨g, 0, none⟩) l.length c, .int .i64 (i : Int), .slice (some ⟨vb, 0, none⟩) 1 1] w fun e w' =>
      ∃ g' c', e = .returned (.slice (some ⟨g', 0, none⟩) (l.length + 1) c') ∧ w'.ownsRow base 111 3 (.slice (some ⟨g', 0, none⟩) (l.length + 1) c') (l.length + 1) (flat (l.take i ++ x :: l.drop i)) ∧ w.grownBy w' (some g) ∧ (g' = g ∨ w.heap.size ≤ g') := by
  subst hc
  by_cases e : i = l.length
  · subst e
    refine (insertRow_end g vb l x l.length w hn hbase rfl h hv).mono ?_
    rintro e w' ⟨g', c', rfl, h1, h2, h3⟩
    exact ⟨g', c', rfl, by simpa using h1, h2, by rcases h3 with h3 | h3; exact .inl h3; exact .inr (by omega)⟩
  · refine (insertRow_grow g vb l x i w (by omega) hn h hv).mono ?_
    rintro e w' ⟨c', rfl, h1, h2⟩
    exact ⟨_, c', rfl, World.ownsRow.mono h1 hbase, ⟨h2.os, h2.tape, h2.output, h2.size, fun k hk _ => h2.block k hk⟩, .inr (Nat.le_refl _)⟩

/-- What writeRow comes to on a state behind a pointer. -/
def WrP (base B : Nat) (m : Md) (tx t r v : Int) (w w' : World) (e : Ending) : Prop := Below base w w' ∧ ∃ x code, RW m x tx t r v code ∧ InM base B w' e x code
set_option maxHeartbeats 16000000 in
theorem write_p (base B s0 s1 : Nat) (vs vt ve : Value) (m : Md) (wv : Nat → Value) (tx t r v : Int) (w : World) (h : PtrM base w B s0 s1 vs vt ve m wv) (hn : SmallM' m) (hcap : ∀ j, j < m.x.length → ∃ g, wv j = .slice (some ⟨g, 0, none⟩) (tAt m.x j).w.length (tAt m.x j).w.length) :
    Calls Tryz.prog 50 #[.pointer (some ⟨B, 0, none⟩), .int .i64 tx, .agg #[.int .i64 t, .int .i64 r], .int .i64 v] w fun e w' => WrP base B m tx t r v w w' e := by
  have hM := h.own.mat hn
  obtain ⟨a1, cap1, hv1⟩ : ∃ a cap, vs = .slice a m.s.length cap := by obtain ⟨a, cap, h1, _⟩ := hM.s; exact ⟨a, cap, h1⟩
  obtain ⟨a2, cap2, hv2⟩ : ∃ a cap, vt = .slice a m.x.length cap := by obtain ⟨a, cap, h1, _⟩ := hM.x; exact ⟨a, cap, h1⟩
  obtain ⟨a3, cap3, hv3⟩ : ∃ a cap, ve = .slice a m.h.length cap := by obtain ⟨a, cap, h1, _⟩ := hM.h; exact ⟨a, cap, h1⟩
  subst hv1 hv2 hv3
  have hbase := h.base
  have hBl := h.box.lt
  have hhl := hn.h
  have bK : Below w.heap.size w (w.alloc (Obj.cells #[Value.int IntKind.i64 t, Value.int IntKind.i64 r] 46)) := (Below.refl _ _).alloc (Nat.le_refl _) _
  have k0 : (w.alloc (Obj.cells #[Value.int IntKind.i64 t, Value.int IntKind.i64 r] 46)).cell? ⟨w.heap.size, 0, none⟩ = some (.int .i64 t) := by simp [go_sem]
  have k1 : (w.alloc (Obj.cells #[Value.int IntKind.i64 t, Value.int IntKind.i64 r] 46)).cell? ⟨w.heap.size, 1, none⟩ = some (.int .i64 r) := by simp [go_sem]
  have hK := h.stays bK
  have hMK := hM.stays bK
  go_enter Tryz.func50, Tryz.ntmps50
  go_wp2_with fail
  generalize w.alloc (Obj.cells #[Value.int IntKind.i64 t, Value.int IntKind.i64 r] 46) = WK at *
  refine (stepping_any B _ a2 cap2 _ m tx t r _ hK.mbox hMK (by omega)).mono ?_
  rintro e w1 ⟨hU, hb1⟩
  have b1w := bK.trans (hb1.mono bK.size)
  have b1 : Below base w w1 := b1w.mono (by omega)
  have h1 := h.stays b1w
  have y0 := cell_stays hb1 k0
  have y1 := cell_stays hb1 k1
  have hvl : ∀ k, (Value.slice a3 m.h.length cap3).ownBlock = some k → k < w.heap.size := fun k hk => (owns_ltM h.own.h hk).2
  have hwl0 : ∀ j, j < m.x.length → ∀ k, (wv j).ownBlock = some k → k < w.heap.size := fun j hj k hk => (owns_ltM (h.own.xw j hj) hk).2
  have hxl0 : ∀ k, (Value.slice a2 m.x.length cap2).ownBlock = some k → k < w.heap.size := fun k hk => (owns_ltM h.own.x hk).2
  have hz1w := b1w.size
  clear bK k0 k1 hK hMK hb1 hM h
  rcases hU with ⟨hok, ht, hh, i, bt, off, hi, e1, rfl⟩ | ⟨hno, rfl⟩ | ⟨hok, hx, ht, hh, rfl⟩
  · have hup := mgr_up hok hi.1
    have hil := hi.1
    have hwl := hn.w i hil
    have hw60 : (tAt m.x i).w.length ≤ 60 := (hok.2.2.2.2.2.2.2 i hil).2.2.2.2.2.1
    have HO : Hid (mgrOk m) := hok
    have HI : Hid (IsTx m tx i) := hi
    have HT : Hid (tabB t = true) := ht
    have HH : Hid (m.h.length ≤ 2998) := hh
    have HU : Hid (RowsUp (tAt m.x i).w) := hup
    clear hok hi ht
    obtain ⟨g, hg, hgb, x0, _⟩ := owns_cell h1.own.x (txc_get m.x wv hil).1
    subst hg
    obtain ⟨rfl, rfl⟩ : g = bt ∧ 0 = off := by injection e1 with e1; injection e1 with e1 e2; exact ⟨e1, e2⟩
    obtain ⟨_, e2, _, x2, xf⟩ := owns_cell h1.own.x (txc_get m.x wv hil).2.2
    cases e2
    obtain ⟨gw, hwv⟩ := hcap i hil
    rw [hwv] at x2
    have hgl : g < w.heap.size := hxl0 g rfl
    have hgwl : gw < w.heap.size := hwl0 i hil gw (by rw [hwv]; rfl)
    have hgwg : gw ≠ g := fun e => h1.own.apart (i + 2) 0 (by omega) (by omega) (by omega) gw (by show (wv i).ownBlock = _; rw [hwv]; rfl) (by rw [e]; rfl)
    have hgB : g ≠ B := fun e => h1.apart 0 (by omega) (by rw [e]; rfl)
    have hgwB : gw ≠ B := fun e => h1.apart (i + 2) (by omega) (by show (wv i).ownBlock = _; rw [hwv, e]; rfl)
    have hW : RowsAt base w1.heap.size w1 (.slice (some ⟨gw, 0, none⟩) (tAt m.x i).w.length (tAt m.x i).w.length) (tAt m.x i).w := by rw [← hwv]; exact rows_ofOwns (h1.own.xw i hil) hwl
    obtain ⟨q, hq⟩ : ∃ q, lowP (tAt m.x i).w t r = q := ⟨_, rfl⟩
    have hlow := lowP_low hup t r
    rw [hq] at hlow
    have HF : ∀ W, Below w1.heap.size w1 W → Calls Tryz.prog 83 #[.slice (some ⟨gw, 0, none⟩) (tAt m.x i).w.length (tAt m.x i).w.length, .agg #[.int .i64 t, .int .i64 r]] W fun e w' => e = .returned (.tuple #[.int .i64 (q : Int), .bool (decide (AtK (tAt m.x i).w t r q))]) ∧ Below W.heap.size W w' := fun W hW' => by
      have := findRow_is _ (tAt m.x i).w t r W (hW.stays hW') hup hwl
      rw [hq] at this
      exact this
    have HL : Hid (LowK (tAt m.x i).w t r q) := hlow
    clear hq hlow hup
    have gk0 := cell_regrown y0
    have gk1 := cell_regrown y1
    have gx2 := cell_regrown x2
    go_wp2_with fail
    refine wp_region_quiet_below (by kernel_rfl) (by kernel_rfl) ?_
    repeat (go_big_quiet_step (first | (go_at_call 83; exact Calls.regrown_of (HF _ (below_regrown _ _ _)))))
    refine wpQuiet_nil ?_
    intro w3 hw3
    obtain ⟨⟨dq, osq⟩, hw4⟩ := hw3
    have hb3 : Below _ _ w3 := hw4 ▸ below_regrown _ dq osq
    clear hw4 gk0 gk1 gx2 HF
    have t0 := cell_stays hb3 y0
    have t1 := cell_stays hb3 y1
    have u2 := cell_stays hb3 x2
    have uf : w3.frozen? ⟨g, i * 3 + 2, none⟩ = false := by rw [hb3.frozen (by show g < _; omega)]; exact xf
    have b3 := b1.trans (hb3.mono (by have := h1.box.lt; omega))
    have h3 := h1.stays hb3
    have hKl : w.heap.size < w3.heap.size := cell_lt t0
    have hz3 : w.heap.size ≤ w3.heap.size := by omega
    clear y0 y1 x2 xf x0 hb3 b1 h1 hW
    by_cases hat : AtK (tAt m.x i).w t r q
    · have HA : Hid (AtK (tAt m.x i).w t r q) := hat
      have hql := hat.1
      have hkey : (rAt (tAt m.x i).w q).t = t ∧ (rAt (tAt m.x i).w q).r = r := hat.2
      rw [decide_eq_true hat]
      have q0 : (0 : Int) ≤ (q : Int) := by omega
      have q1 : (q : Int) < ((tAt m.x i).w.length : Int) := by omega
      have hO := h3.own.xw i hil
      rw [hwv] at hO
      obtain ⟨_, e2, _, v2, vf⟩ := owns_cell hO (flat_get _ _ hql).2.2
      cases e2
      obtain ⟨P9, b9⟩ := h3.setV hil hql hwv v
      have hm9 : putW m i ((tAt m.x i).w.set q ⟨(rAt (tAt m.x i).w q).t, (rAt (tAt m.x i).w q).r, v⟩) = putW m i (wrL (tAt m.x i).w t r v) := by
        rw [hkey.1, hkey.2, wr_at HU.out v HA.out]
      rw [hm9] at P9
      have HNF : Hid (¬ FullW m i t r) := fun hf => hf.1 q HA.out
      have b9' := b3.trans b9
      have t0' : (w3.setCell ⟨gw, q * 3 + 2, none⟩ (.int .i64 v)).cell? ⟨w.heap.size, 0, none⟩ = some (.int .i64 t) := cell_same (Below.heap_setCell _ _ _ _ (by show w.heap.size ≠ gw; omega)) t0
      have t1' : (w3.setCell ⟨gw, q * 3 + 2, none⟩ (.int .i64 v)).cell? ⟨w.heap.size, 1, none⟩ = some (.int .i64 r) := cell_same (Below.heap_setCell _ _ _ _ (by show w.heap.size ≠ gw; omega)) t1
      clear hat hkey hO h3 b3 b9 hm9 t0 t1 HA HL
      go_wp2_with fail
      generalize w3.setCell ⟨gw, q * 3 + 2, none⟩ (.int .i64 v) = W9 at *
      clear u2 uf v2 vf
      obtain ⟨c4, _⟩ := P9.cell (j := 4) (by omega)
      simp only [bxf] at c4
      obtain ⟨ti, hI, hz0, hz1, hz2⟩ := info_parts infoEv
      have hB9 := P9.box.lt
      have hzW : base ≤ W9.heap.size := by omega
      have hKl9 := cell_lt t0'
      have bD := (Below.refl W9.heap.size W9).drew
      have hbt := build_evW tx t r v
      refine region_last (fun x => x.cell? ⟨B, 4, none⟩ = some (.slice a3 m.h.length cap3) ∧ x.cell? ⟨w.heap.size, 0, none⟩ = some (.int .i64 t) ∧ x.cell? ⟨w.heap.size, 1, none⟩ = some (.int .i64 r)) (by kernel_rfl) (by kernel_rfl) (by kernel_rfl) ⟨cell_stays bD c4, cell_stays bD t0', cell_stays bD t1'⟩ (fun hHeld0 => ?_)
      simp only [List.dropLast, List.length_cons, List.length_nil, Nat.reduceAdd]
      refine takeL (i := 0) (v := ?_) rfl (by kernel_rfl) (by kernel_rfl) (by kernel_rfl) (fun _ _ _ h => h) rfl (by assumption) ?_ ?_
      rotate_left
      · (intro wS hSw; (try dsimp only at hSw); go_simp; try with_reducible rfl)
      (try simp only [Act.put, List.setIfInBounds_toArray, List.set_cons_zero, List.set_cons_succ])
      refine takeL (i := 1) (v := ?_) rfl (by kernel_rfl) (by kernel_rfl) (by kernel_rfl) (fun _ _ _ h => h) rfl (by assumption) ?_ ?_
      rotate_left
      · (intro wS hSw; (try dsimp only at hSw); go_simp; try with_reducible rfl)
      (try simp only [Act.put, List.setIfInBounds_toArray, List.set_cons_zero, List.set_cons_succ])
      refine takeL (i := 2) (v := ?_) rfl (by kernel_rfl) (by kernel_rfl) (by kernel_rfl) (fun _ _ _ h => h) rfl (by assumption) ?_ ?_
      rotate_left
      · (intro wS hSw; (try dsimp only at hSw); go_simp; try with_reducible rfl)
      (try simp only [Act.put, List.setIfInBounds_toArray, List.set_cons_zero, List.set_cons_succ])
      refine takeL (i := 3) (v := ?_) rfl (by kernel_rfl) (by kernel_rfl) (by kernel_rfl) (fun _ _ _ h => h) rfl (by assumption) ?_ ?_
      rotate_left
      · (intro wS hSw; (try dsimp only at hSw); go_simp; try with_reducible rfl)
      (try simp only [Act.put, List.setIfInBounds_toArray, List.set_cons_zero, List.set_cons_succ])
      refine takeL (i := 4) (v := ?_) rfl (by kernel_rfl) (by kernel_rfl) (by kernel_rfl) (fun _ _ _ h => h) rfl (by assumption) ?_ ?_
      rotate_left
      · (intro wS hSw; (try dsimp only at hSw); go_simp; try with_reducible rfl)
      (try simp only [Act.put, List.setIfInBounds_toArray, List.set_cons_zero, List.set_cons_succ])
      refine takeL (i := 5) (v := ?_) rfl (by kernel_rfl) (by kernel_rfl) (by kernel_rfl) (fun _ _ _ h => h) rfl (by assumption) ?_ ?_
      rotate_left
      · (intro wS hSw; (try dsimp only at hSw); go_simp; try with_reducible rfl)
      (try simp only [Act.put, List.setIfInBounds_toArray, List.set_cons_zero, List.set_cons_succ])
      refine takeL (i := 6) (v := ?_) rfl (by kernel_rfl) (by kernel_rfl) (by kernel_rfl) (fun _ _ _ h => h) rfl (by assumption) ?_ ?_
      rotate_left
      · (intro wS hSw; (try dsimp only at hSw); go_simp; try with_reducible rfl)
      (try simp only [Act.put, List.setIfInBounds_toArray, List.set_cons_zero, List.set_cons_succ])
      refine takeL (i := 7) (v := ?_) rfl (by kernel_rfl) (by kernel_rfl) (by kernel_rfl) (fun _ _ _ h => h) rfl (by assumption) ?_ ?_
      rotate_left
      · (intro wS hSw; (try dsimp only at hSw); go_simp; try with_reducible rfl)
      (try simp only [Act.put, List.setIfInBounds_toArray, List.set_cons_zero, List.set_cons_succ])
      refine takeL (i := 8) (v := ?_) rfl (by kernel_rfl) (by kernel_rfl) (by kernel_rfl) (fun _ _ _ h => h) rfl (by assumption) ?_ ?_
      rotate_left
      · (intro wS hSw; (try dsimp only at hSw); go_simp; try with_reducible rfl)
      (try simp only [Act.put, List.setIfInBounds_toArray, List.set_cons_zero, List.set_cons_succ])
      refine stepL (i := 9) rfl (by kernel_rfl) (fun K hK => ?_)
      rw [if_pos (by rfl)]
      go_simp
      have bA := bD.alloc (by exact Nat.le_refl _) (Obj.cells #[.int .i64 3, .int .i64 tx, .int .i64 t, .int .i64 r, .int .i64 v, .int .i64 0] 101)
      refine hK.out _ _ ⟨cell_stays bA c4, cell_stays bA t0', cell_stays bA t1'⟩ (fun hHeld1 => ?_)
      clear hK K hHeld0
      (try simp only [Act.put, List.setIfInBounds_toArray, List.set_cons_zero, List.set_cons_succ])
      refine stepL (i := 10) rfl (by kernel_rfl) (fun K hK => ?_)
      have hXA := owns_keepM P9.own.h fun g hg hl => bA.block g hl
      refine step_append_lies _ (by rfl) _ _ _ (by rfl) base 101 ti _ 6 48 Tryz.underlying34 hI hz0 hz1 hz2 rfl (by omega) (.slice a3 m.h.length cap3) m.h.length (hexa m.h) (by rfl) hXA ⟨W9.heap.size, 0, none⟩ 1 1 [.int .i64 3, .int .i64 tx, .int .i64 t, .int .i64 r, .int .i64 v, .int .i64 0] (by rfl) (by rfl) (newsM W9.drew _ _) (by intro u hu; simp at hu; rcases hu with rfl | rfl | rfl | rfl | rfl | rfl <;> rfl) (by omega) (by unfold maxLen; omega) (by omega) (by simp; omega) (W9.heap.size + 1) (by simp) ?_
      intro gg cap5 w6 hown6 hgrow6 hat6 hlt6
      have hnB := P9.apart 1 (by omega)
      have k5 : ∀ b, b < W9.heap.size → (Value.slice a3 m.h.length cap3).ownBlock ≠ some b → ∀ (o : Nat) (u : Value), W9.cell? ⟨b, o, none⟩ = some u → w6.cell? ⟨b, o, none⟩ = some u := fun b hb hne o u hu => cell_same (hgrow6.block b (Nat.lt_of_lt_of_le hb (by have := bA.size; exact this)) (fun e => hne e.symm)) (cell_stays bA hu)
      have hnK : (Value.slice a3 m.h.length cap3).ownBlock ≠ some w.heap.size := fun e => by have := hvl _ e; omega
      refine hK.out _ _ ⟨k5 B hB9 hnB _ _ c4, k5 _ hKl9 hnK _ _ t0', k5 _ hKl9 hnK _ _ t1'⟩ (fun hHeld2 => ?_)
      clear hK K hHeld1
      (try simp only [Act.put, List.setIfInBounds_toArray, List.set_cons_zero, List.set_cons_succ])
      refine takeL (i := 11) (v := ?_) rfl (by kernel_rfl) (by kernel_rfl) (by kernel_rfl) (fun _ _ _ h => h) rfl (by assumption) ?_ ?_
      rotate_left
      · (intro wS hSw; (try dsimp only at hSw); go_simp; try with_reducible rfl)
      (try simp only [Act.put, List.setIfInBounds_toArray, List.set_cons_zero, List.set_cons_succ])
      refine takeL (i := 12) (v := ?_) rfl (by kernel_rfl) (by kernel_rfl) (by kernel_rfl) (fun _ _ _ h => h) rfl (by assumption) ?_ ?_
      rotate_left
      · (intro wS hSw; (try dsimp only at hSw); go_simp; try with_reducible rfl)
      (try simp only [Act.put, List.setIfInBounds_toArray, List.set_cons_zero, List.set_cons_succ])
      have hB5 := P9.box.of_block (show w6.heap[B]? = W9.heap[B]? from (hgrow6.block B (Nat.lt_of_lt_of_le hB9 (by have := bA.size; exact this)) (fun e => hnB e.symm)).trans (bA.block B hB9))
      have q4 := hB5.cell (show 4 < 5 by omega)
      have qf := hB5.frozen 4
      obtain ⟨P11, bP11⟩ := P9.pushEv (x := ⟨3, tx, t, r, v, 0⟩) bA hgrow6 hown6 (by rcases hat6 with e | e; exact .inl e; exact .inr (by omega))
      refine wpAnyH_done (by kernel_rfl) ?_ _
      refine lastL (n := 13) rfl rfl ?_
      go_simp
      have b11 := b9'.trans bP11
      clear hHeld2 q4 qf hB5 k5 hnB hnK hlt6 hat6 hgrow6 hown6 hXA bA bD hbt hI hz0 hz1 hz2 c4 P9 b9' t0' t1' bP11
      go_wp2
      go_ret
      exact ⟨b11, wrM m tx i t r v, 0, .inl ⟨HO.out, HT.out, HH.out, i, HI.out, HNF.out, rfl, rfl⟩, .inl ⟨rfl, rfl, _, _, _, _, _, _, P11⟩⟩
    · have hno : ∀ j, ¬ AtK (tAt m.x i).w t r j := fun j hj => hat (by rw [← LowK.at HL.out HU.out hj]; exact hj)
      have HNO : Hid (∀ j, ¬ AtK (tAt m.x i).w t r j) := hno
      rw [decide_eq_false hat]
      clear hat hno
      by_cases h60 : (tAt m.x i).w.length = 60
      · have HF : Hid (FullW m i t r) := ⟨HNO.out, h60⟩
        have hd : (((tAt m.x i).w.length : Int) == 60) = true := by simp; omega
        change Hid _ at h60
        go_wp2
        go_ret
        exact ⟨b3, md0, 2, .inr (.inr ⟨HO.out, HT.out, ⟨i, HI.out, .inr HF.out⟩, rfl, rfl⟩), .inr ⟨rfl, rfl⟩⟩
      have hd : (((tAt m.x i).w.length : Int) == 60) = false := by rw [beq_eq_false_iff_ne]; omega
      have HNF : Hid (¬ FullW m i t r) := fun hf => h60 hf.2
      change Hid _ at h60
      have hqn : q ≤ (tAt m.x i).w.length := HL.out.1
      have hO := h3.own.xw i hil
      rw [hwv] at hO
      have hbr := build_rowK t r
      have bD := (Below.refl w3.heap.size w3).drew
      have hzW3 : base ≤ w3.heap.size := by have := h3.box.lt; omega
      go_wp2_with fail
      refine region_last (fun x => x.cell? ⟨g, i * 3 + 2, none⟩ = some (.slice (some ⟨gw, 0, none⟩) (tAt m.x i).w.length (tAt m.x i).w.length) ∧ x.cell? ⟨w.heap.size, 0, none⟩ = some (.int .i64 t) ∧ x.cell? ⟨w.heap.size, 1, none⟩ = some (.int .i64 r)) (by kernel_rfl) (by kernel_rfl) (by kernel_rfl) ⟨cell_stays bD u2, cell_stays bD t0, cell_stays bD t1⟩ (fun hHeld0 => ?_)
      simp only [List.dropLast, List.length_cons, List.length_nil, Nat.reduceAdd]
      refine takeL (i := 0) (v := ?_) rfl (by kernel_rfl) (by kernel_rfl) (by kernel_rfl) (fun _ _ _ h => h) rfl (by assumption) ?_ ?_
      rotate_left
      · (intro wS hSw; (try dsimp only at hSw); go_simp; try with_reducible rfl)
      (try simp only [Act.put, List.setIfInBounds_toArray, List.set_cons_zero, List.set_cons_succ])
      refine takeL (i := 1) (v := ?_) rfl (by kernel_rfl) (by kernel_rfl) (by kernel_rfl) (fun _ _ _ h => h) rfl (by assumption) ?_ ?_
      rotate_left
      · (intro wS hSw; (try dsimp only at hSw); go_simp; try with_reducible rfl)
      (try simp only [Act.put, List.setIfInBounds_toArray, List.set_cons_zero, List.set_cons_succ])
      refine takeL (i := 2) (v := ?_) rfl (by kernel_rfl) (by kernel_rfl) (by kernel_rfl) (fun _ _ _ h => h) rfl (by assumption) ?_ ?_
      rotate_left
      · (intro wS hSw; (try dsimp only at hSw); go_simp; try with_reducible rfl)
      (try simp only [Act.put, List.setIfInBounds_toArray, List.set_cons_zero, List.set_cons_succ])
      refine takeL (i := 3) (v := ?_) rfl (by kernel_rfl) (by kernel_rfl) (by kernel_rfl) (fun _ _ _ h => h) rfl (by assumption) ?_ ?_
      rotate_left
      · (intro wS hSw; (try dsimp only at hSw); go_simp; try with_reducible rfl)
      (try simp only [Act.put, List.setIfInBounds_toArray, List.set_cons_zero, List.set_cons_succ])
      refine takeL (i := 4) (v := ?_) rfl (by kernel_rfl) (by kernel_rfl) (by kernel_rfl) (fun _ _ _ h => h) rfl (by assumption) ?_ ?_
      rotate_left
      · (intro wS hSw; (try dsimp only at hSw); go_simp; try with_reducible rfl)
      (try simp only [Act.put, List.setIfInBounds_toArray, List.set_cons_zero, List.set_cons_succ])
      refine takeL (i := 5) (v := ?_) rfl (by kernel_rfl) (by kernel_rfl) (by kernel_rfl) (fun _ _ _ h => h) rfl (by assumption) ?_ ?_
      rotate_left
      · (intro wS hSw; (try dsimp only at hSw); go_simp; try with_reducible rfl)
      (try simp only [Act.put, List.setIfInBounds_toArray, List.set_cons_zero, List.set_cons_succ])
      refine takeL (i := 6) (v := ?_) rfl (by kernel_rfl) (by kernel_rfl) (by kernel_rfl) (fun _ _ _ h => h) rfl (by assumption) ?_ ?_
      rotate_left
      · (intro wS hSw; (try dsimp only at hSw); go_simp; try with_reducible rfl)
      (try simp only [Act.put, List.setIfInBounds_toArray, List.set_cons_zero, List.set_cons_succ])
      refine takeL (i := 7) (v := ?_) rfl (by kernel_rfl) (by kernel_rfl) (by kernel_rfl) (fun _ _ _ h => h) rfl (by assumption) ?_ ?_
      rotate_left
      · (intro wS hSw; (try dsimp only at hSw); go_simp; try with_reducible rfl)
      (try simp only [Act.put, List.setIfInBounds_toArray, List.set_cons_zero, List.set_cons_succ])
      refine stepL (i := 8) rfl (by kernel_rfl) (fun K hK => ?_)
      rw [if_pos (by rfl)]
      go_simp
      have bA : Below w3.heap.size w3 (w3.alloc (Obj.cells #[.int .i64 t, .int .i64 r, .int .i64 0] 111)).drew := ((Below.refl _ _).alloc (Nat.le_refl _) _).drew
      refine hK.out _ _ ⟨cell_stays bA u2, cell_stays bA t0, cell_stays bA t1⟩ (fun hHeld1 => ?_)
      clear hK K hHeld0
      (try simp only [Act.put, List.setIfInBounds_toArray, List.set_cons_zero, List.set_cons_succ])
      refine stepL (i := 9) rfl (by kernel_rfl) (fun K hK => ?_)
      rw [if_pos (by rfl)]
      go_simp
      refine (insertRow_any gw w3.heap.size (tAt m.x i).w ⟨t, r, 0⟩ q _ _ hqn (by omega) (by have := bA.size; omega) rfl (owns_keepM hO fun k hk hl => bA.block k hl) (Deep.blk_alloc_new w3 _)).mono ?_
      rintro e w6 ⟨g', c', rfl, hown6, hgr6, hat6⟩
      have hzA : w3.heap.size ≤ (w3.alloc (Obj.cells #[.int .i64 t, .int .i64 r, .int .i64 0] 111)).drew.heap.size := bA.size
      have k6 : ∀ k, k < w3.heap.size → k ≠ gw → w6.heap[k]? = w3.heap[k]? := fun k h1 h2 => (hgr6.block k (by omega) (by simpa using h2)).trans (bA.block k h1)
      have u2' := cell_same (k6 g (by omega) (fun e => hgwg e.symm)) u2
      have s0' := cell_same (k6 w.heap.size (by omega) (by omega)) t0
      have s1' := cell_same (k6 w.heap.size (by omega) (by omega)) t1
      have uf' : w6.frozen? ⟨g, i * 3 + 2, none⟩ = false := by rw [World.frozen?_of_block (k6 g (by omega) (fun e => hgwg e.symm))]; exact uf
      refine hK.out _ _ ⟨u2', s0', s1'⟩ (fun hHeld2 => ?_)
      clear hK K hHeld1
      (try simp only [Act.put, List.setIfInBounds_toArray, List.set_cons_zero, List.set_cons_succ])
      refine takeL (i := 10) (v := ?_) rfl (by kernel_rfl) (by kernel_rfl) (by kernel_rfl) (fun _ _ _ h => h) rfl (by assumption) ?_ ?_
      rotate_left
      · (intro wS hSw; (try dsimp only at hSw); go_simp; try with_reducible rfl)
      (try simp only [Act.put, List.setIfInBounds_toArray, List.set_cons_zero, List.set_cons_succ])
      refine takeL (i := 11) (v := ?_) rfl (by kernel_rfl) (by kernel_rfl) (by kernel_rfl) (fun _ _ _ h => h) rfl (by assumption) ?_ ?_
      rotate_left
      · (intro wS hSw; (try dsimp only at hSw); go_simp; try with_reducible rfl)
      (try simp only [Act.put, List.setIfInBounds_toArray, List.set_cons_zero, List.set_cons_succ])
      have hrl : ((tAt m.x i).w.take q ++ (⟨t, r, 0⟩ : Rw) :: (tAt m.x i).w.drop q).length = (tAt m.x i).w.length + 1 := by rw [List.length_append, List.length_cons, List.length_take, List.length_drop]; omega
      obtain ⟨P8, b8⟩ := h3.setW bA hil (by rw [hwv]; exact hgr6) (u := .slice (some ⟨g', 0, none⟩) ((tAt m.x i).w.length + 1) c') (r := (tAt m.x i).w.take q ++ (⟨t, r, 0⟩ : Rw) :: (tAt m.x i).w.drop q) (by rw [hrl]; exact hown6) (fun gg e => by
        have e' : gg = g' := by simpa [Value.ownBlock] using e.symm
        subst e'
        rcases hat6 with h' | h'
        · left; rw [hwv, h']; rfl
        · exact .inr (by omega))
      refine wpAnyH_done (by kernel_rfl) ?_ _
      refine lastL (n := 12) rfl rfl ?_
      go_simp
      have b8' := b3.trans b8
      have hg'g : g' ≠ g := by
        rcases hat6 with h' | h'
        · omega
        · have := bA.size; omega
      have hg'K : g' ≠ w.heap.size := by
        rcases hat6 with h' | h'
        · omega
        · have := bA.size; omega
      have r0 : (w6.setCell ⟨g, i * 3 + 2, none⟩ (.slice (some ⟨g', 0, none⟩) ((tAt m.x i).w.length + 1) c')).cell? ⟨w.heap.size, 0, none⟩ = some (.int .i64 t) := cell_same (Below.heap_setCell _ _ _ _ (by show w.heap.size ≠ g; omega)) s0'
      have r1 : (w6.setCell ⟨g, i * 3 + 2, none⟩ (.slice (some ⟨g', 0, none⟩) ((tAt m.x i).w.length + 1) c')).cell? ⟨w.heap.size, 1, none⟩ = some (.int .i64 r) := cell_same (Below.heap_setCell _ _ _ _ (by show w.heap.size ≠ g; omega)) s1'
      clear hHeld2 u2' s0' s1' uf' k6 hzA hat6 hgr6 hown6 bA bD hbr hO h3 b3 b8 u2 uf t0 t1
      generalize w6.setCell ⟨g, i * 3 + 2, none⟩ (.slice (some ⟨g', 0, none⟩) ((tAt m.x i).w.length + 1) c') = W8 at *
      have hw8 := putW_w m hil ((tAt m.x i).w.take q ++ (⟨t, r, 0⟩ : Rw) :: (tAt m.x i).w.drop q)
      have hlx8 : (putW m i ((tAt m.x i).w.take q ++ (⟨t, r, 0⟩ : Rw) :: (tAt m.x i).w.drop q)).x.length = m.x.length := by simp [putW]
      have hil8 : i < (putW m i ((tAt m.x i).w.take q ++ (⟨t, r, 0⟩ : Rw) :: (tAt m.x i).w.drop q)).x.length := by omega
      have hq8 : q < (tAt (putW m i ((tAt m.x i).w.take q ++ (⟨t, r, 0⟩ : Rw) :: (tAt m.x i).w.drop q)).x i).w.length := by rw [hw8]; omega
      have hwv8 : wput i (.slice (some ⟨g', 0, none⟩) ((tAt m.x i).w.length + 1) c') wv i = .slice (some ⟨g', 0, none⟩) (tAt (putW m i ((tAt m.x i).w.take q ++ (⟨t, r, 0⟩ : Rw) :: (tAt m.x i).w.drop q)).x i).w.length c' := by rw [hw8, hrl]; simp [wput]
      obtain ⟨_, e2, _, d2, _⟩ := owns_cell P8.own.x (txc_get _ (wput i (.slice (some ⟨g', 0, none⟩) ((tAt m.x i).w.length + 1) c') wv) hil8).2.2
      cases e2
      rw [hwv8, hw8, hrl] at d2
      have hO8 := P8.own.xw i hil8
      rw [hwv8] at hO8
      obtain ⟨_, e2, _, v2, vf⟩ := owns_cell hO8 (flat_get _ _ hq8).2.2
      cases e2
      obtain ⟨P9, b9⟩ := P8.setV hil8 hq8 hwv8 v
      have hrq : rAt ((tAt m.x i).w.take q ++ (⟨t, r, 0⟩ : Rw) :: (tAt m.x i).w.drop q) q = ⟨t, r, 0⟩ := by
        simp only [rAt, List.getD_eq_getElem?_getD]
        rw [List.getElem?_append_right (by rw [List.length_take]; omega), List.length_take, Nat.min_eq_left hqn, Nat.sub_self]
        rfl
      have hset : ((tAt m.x i).w.take q ++ (⟨t, r, 0⟩ : Rw) :: (tAt m.x i).w.drop q).set q ⟨t, r, v⟩ = (tAt m.x i).w.take q ++ (⟨t, r, v⟩ : Rw) :: (tAt m.x i).w.drop q := by
        rw [List.set_append_right _ _ (by rw [List.length_take]; omega), List.length_take, Nat.min_eq_left hqn, Nat.sub_self]
        rfl
      rw [hw8, hrq] at P9
      simp only [hset] at P9
      rw [putW_put m hil, wr_no HU.out v HL.out HNO.out] at P9
      have b9' := b8'.trans b9
      have q0 : (0 : Int) ≤ (q : Int) := by omega
      have q1 : (q : Int) < ((tAt m.x i).w.length : Int) + 1 := by omega
      have t0' : (W8.setCell ⟨g', q * 3 + 2, none⟩ (.int .i64 v)).cell? ⟨w.heap.size, 0, none⟩ = some (.int .i64 t) := cell_same (Below.heap_setCell _ _ _ _ (by show w.heap.size ≠ g'; omega)) r0
      have t1' : (W8.setCell ⟨g', q * 3 + 2, none⟩ (.int .i64 v)).cell? ⟨w.heap.size, 1, none⟩ = some (.int .i64 r) := cell_same (Below.heap_setCell _ _ _ _ (by show w.heap.size ≠ g'; omega)) r1
      clear hO8 P8 b8' b9 r0 r1 hset hrq hwv8 hq8 hil8 hlx8 hw8 hrl HL HNO
      go_wp2_with fail
      generalize W8.setCell ⟨g', q * 3 + 2, none⟩ (.int .i64 v) = W9 at *
      clear d2 v2 vf
      obtain ⟨c4, _⟩ := P9.cell (j := 4) (by omega)
      simp only [bxf] at c4
      obtain ⟨ti, hI, hz0, hz1, hz2⟩ := info_parts infoEv
      have hB9 := P9.box.lt
      have hzW : base ≤ W9.heap.size := by omega
      have hKl9 := cell_lt t0'
      have bD := (Below.refl W9.heap.size W9).drew
      have hbt := build_evW tx t r v
      refine region_last (fun x => x.cell? ⟨B, 4, none⟩ = some (.slice a3 m.h.length cap3) ∧ x.cell? ⟨w.heap.size, 0, none⟩ = some (.int .i64 t) ∧ x.cell? ⟨w.heap.size, 1, none⟩ = some (.int .i64 r)) (by kernel_rfl) (by kernel_rfl) (by kernel_rfl) ⟨cell_stays bD c4, cell_stays bD t0', cell_stays bD t1'⟩ (fun hHeld0 => ?_)
      simp only [List.dropLast, List.length_cons, List.length_nil, Nat.reduceAdd]
      refine takeL (i := 0) (v := ?_) rfl (by kernel_rfl) (by kernel_rfl) (by kernel_rfl) (fun _ _ _ h => h) rfl (by assumption) ?_ ?_
      rotate_left
      · (intro wS hSw; (try dsimp only at hSw); go_simp; try with_reducible rfl)
      (try simp only [Act.put, List.setIfInBounds_toArray, List.set_cons_zero, List.set_cons_succ])
      refine takeL (i := 1) (v := ?_) rfl (by kernel_rfl) (by kernel_rfl) (by kernel_rfl) (fun _ _ _ h => h) rfl (by assumption) ?_ ?_
      rotate_left
      · (intro wS hSw; (try dsimp only at hSw); go_simp; try with_reducible rfl)
      (try simp only [Act.put, List.setIfInBounds_toArray, List.set_cons_zero, List.set_cons_succ])
      refine takeL (i := 2) (v := ?_) rfl (by kernel_rfl) (by kernel_rfl) (by kernel_rfl) (fun _ _ _ h => h) rfl (by assumption) ?_ ?_
      rotate_left
      · (intro wS hSw; (try dsimp only at hSw); go_simp; try with_reducible rfl)
      (try simp only [Act.put, List.setIfInBounds_toArray, List.set_cons_zero, List.set_cons_succ])
      refine takeL (i := 3) (v := ?_) rfl (by kernel_rfl) (by kernel_rfl) (by kernel_rfl) (fun _ _ _ h => h) rfl (by assumption) ?_ ?_
      rotate_left
      · (intro wS hSw; (try dsimp only at hSw); go_simp; try with_reducible rfl)
      (try simp only [Act.put, List.setIfInBounds_toArray, List.set_cons_zero, List.set_cons_succ])
      refine takeL (i := 4) (v := ?_) rfl (by kernel_rfl) (by kernel_rfl) (by kernel_rfl) (fun _ _ _ h => h) rfl (by assumption) ?_ ?_
      rotate_left
      · (intro wS hSw; (try dsimp only at hSw); go_simp; try with_reducible rfl)
      (try simp only [Act.put, List.setIfInBounds_toArray, List.set_cons_zero, List.set_cons_succ])
      refine takeL (i := 5) (v := ?_) rfl (by kernel_rfl) (by kernel_rfl) (by kernel_rfl) (fun _ _ _ h => h) rfl (by assumption) ?_ ?_
      rotate_left
      · (intro wS hSw; (try dsimp only at hSw); go_simp; try with_reducible rfl)
      (try simp only [Act.put, List.setIfInBounds_toArray, List.set_cons_zero, List.set_cons_succ])
      refine takeL (i := 6) (v := ?_) rfl (by kernel_rfl) (by kernel_rfl) (by kernel_rfl) (fun _ _ _ h => h) rfl (by assumption) ?_ ?_
      rotate_left
      · (intro wS hSw; (try dsimp only at hSw); go_simp; try with_reducible rfl)
      (try simp only [Act.put, List.setIfInBounds_toArray, List.set_cons_zero, List.set_cons_succ])
      refine takeL (i := 7) (v := ?_) rfl (by kernel_rfl) (by kernel_rfl) (by kernel_rfl) (fun _ _ _ h => h) rfl (by assumption) ?_ ?_
      rotate_left
      · (intro wS hSw; (try dsimp only at hSw); go_simp; try with_reducible rfl)
      (try simp only [Act.put, List.setIfInBounds_toArray, List.set_cons_zero, List.set_cons_succ])
      refine takeL (i := 8) (v := ?_) rfl (by kernel_rfl) (by kernel_rfl) (by kernel_rfl) (fun _ _ _ h => h) rfl (by assumption) ?_ ?_
      rotate_left
      · (intro wS hSw; (try dsimp only at hSw); go_simp; try with_reducible rfl)
      (try simp only [Act.put, List.setIfInBounds_toArray, List.set_cons_zero, List.set_cons_succ])
      refine stepL (i := 9) rfl (by kernel_rfl) (fun K hK => ?_)
      rw [if_pos (by rfl)]
      go_simp
      have bA := bD.alloc (by exact Nat.le_refl _) (Obj.cells #[.int .i64 3, .int .i64 tx, .int .i64 t, .int .i64 r, .int .i64 v, .int .i64 0] 101)
      refine hK.out _ _ ⟨cell_stays bA c4, cell_stays bA t0', cell_stays bA t1'⟩ (fun hHeld1 => ?_)
      clear hK K hHeld0
      (try simp only [Act.put, List.setIfInBounds_toArray, List.set_cons_zero, List.set_cons_succ])
      refine stepL (i := 10) rfl (by kernel_rfl) (fun K hK => ?_)
      have hXA := owns_keepM P9.own.h fun g hg hl => bA.block g hl
      refine step_append_lies _ (by rfl) _ _ _ (by rfl) base 101 ti _ 6 48 Tryz.underlying34 hI hz0 hz1 hz2 rfl (by omega) (.slice a3 m.h.length cap3) m.h.length (hexa m.h) (by rfl) hXA ⟨W9.heap.size, 0, none⟩ 1 1 [.int .i64 3, .int .i64 tx, .int .i64 t, .int .i64 r, .int .i64 v, .int .i64 0] (by rfl) (by rfl) (newsM W9.drew _ _) (by intro u hu; simp at hu; rcases hu with rfl | rfl | rfl | rfl | rfl | rfl <;> rfl) (by omega) (by unfold maxLen; omega) (by omega) (by simp; omega) (W9.heap.size + 1) (by simp) ?_
      intro gg cap5 w6 hown6 hgrow6 hat6 hlt6
      have hnB := P9.apart 1 (by omega)
      have k5 : ∀ b, b < W9.heap.size → (Value.slice a3 m.h.length cap3).ownBlock ≠ some b → ∀ (o : Nat) (u : Value), W9.cell? ⟨b, o, none⟩ = some u → w6.cell? ⟨b, o, none⟩ = some u := fun b hb hne o u hu => cell_same (hgrow6.block b (Nat.lt_of_lt_of_le hb (by have := bA.size; exact this)) (fun e => hne e.symm)) (cell_stays bA hu)
      have hnK : (Value.slice a3 m.h.length cap3).ownBlock ≠ some w.heap.size := fun e => by have := hvl _ e; omega
      refine hK.out _ _ ⟨k5 B hB9 hnB _ _ c4, k5 _ hKl9 hnK _ _ t0', k5 _ hKl9 hnK _ _ t1'⟩ (fun hHeld2 => ?_)
      clear hK K hHeld1
      (try simp only [Act.put, List.setIfInBounds_toArray, List.set_cons_zero, List.set_cons_succ])
      refine takeL (i := 11) (v := ?_) rfl (by kernel_rfl) (by kernel_rfl) (by kernel_rfl) (fun _ _ _ h => h) rfl (by assumption) ?_ ?_
      rotate_left
      · (intro wS hSw; (try dsimp only at hSw); go_simp; try with_reducible rfl)
      (try simp only [Act.put, List.setIfInBounds_toArray, List.set_cons_zero, List.set_cons_succ])
      refine takeL (i := 12) (v := ?_) rfl (by kernel_rfl) (by kernel_rfl) (by kernel_rfl) (fun _ _ _ h => h) rfl (by assumption) ?_ ?_
      rotate_left
      · (intro wS hSw; (try dsimp only at hSw); go_simp; try with_reducible rfl)
      (try simp only [Act.put, List.setIfInBounds_toArray, List.set_cons_zero, List.set_cons_succ])
      have hB5 := P9.box.of_block (show w6.heap[B]? = W9.heap[B]? from (hgrow6.block B (Nat.lt_of_lt_of_le hB9 (by have := bA.size; exact this)) (fun e => hnB e.symm)).trans (bA.block B hB9))
      have q4 := hB5.cell (show 4 < 5 by omega)
      have qf := hB5.frozen 4
      obtain ⟨P11, bP11⟩ := P9.pushEv (x := ⟨3, tx, t, r, v, 0⟩) bA hgrow6 hown6 (by rcases hat6 with e | e; exact .inl e; exact .inr (by omega))
      refine wpAnyH_done (by kernel_rfl) ?_ _
      refine lastL (n := 13) rfl rfl ?_
      go_simp
      have b11 := b9'.trans bP11
      clear hHeld2 q4 qf hB5 k5 hnB hnK hlt6 hat6 hgrow6 hown6 hXA bA bD hbt hI hz0 hz1 hz2 c4 P9 b9' t0' t1' bP11
      go_wp2
      go_ret
      exact ⟨b11, wrM m tx i t r v, 0, .inl ⟨HO.out, HT.out, HH.out, i, HI.out, HNF.out, rfl, rfl⟩, .inl ⟨rfl, rfl, _, _, _, _, _, _, P11⟩⟩
  · have HN : Hid (¬ mgrOk m ∨ NoTx m tx ∨ ¬ tabB t = true) := hno
    clear hno
    simp only [refE]
    go_wp2
    go_ret
    exact ⟨b1, md0, 1, .inr (.inl ⟨HN.out, rfl, rfl⟩), .inr ⟨rfl, rfl⟩⟩
  · have HN : Hid (mgrOk m ∧ (∃ i, IsTx m tx i) ∧ tabB t = true ∧ ¬ m.h.length ≤ 2998) := ⟨hok, hx, ht, hh⟩
    clear hok hx ht hh
    simp only [refE]
    go_wp2
    go_ret
    obtain ⟨n1, ⟨i, n2⟩, n3, n4⟩ := HN.out
    exact ⟨b1, md0, 2, .inr (.inr ⟨n1, n3, ⟨i, n2, .inl n4⟩, rfl, rfl⟩), .inr ⟨rfl, rfl⟩⟩
theorem write_in (base B s0 s1 : Nat) (vs vt ve : Value) (m : Md) (wv : Nat → Value) (tx t r v : Int) (w : World) (h : PtrM base w B s0 s1 vs vt ve m wv) (hn : SmallM' m) (hcap : ∀ j, j < m.x.length → ∃ g, wv j = .slice (some ⟨g, 0, none⟩) (tAt m.x j).w.length (tAt m.x j).w.length) :
    Calls Tryz.prog 50 #[.pointer (some ⟨B, 0, none⟩), .int .i64 tx, .agg #[.int .i64 t, .int .i64 r], .int .i64 v] w fun e w' => Below base w w' ∧ ∃ x code, RW m x tx t r v code ∧ InM base B w' e x code := write_p base B s0 s1 vs vt ve m wv tx t r v w h hn hcap
end Go.Proofs.YtmecbppblbmchaaGreatDoor
