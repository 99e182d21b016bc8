import Derived.Test.YtmecbppblbmchaaGreatDoorPrune0
import Derived.Test.YtmecbppblbmchaaGreatDoorOwnQ
import Derived.Test.YtmecbppblbmchaaGreatDoorInstEq
import Derived.Test.YtmecbppblbmchaaGreatDoorMLost
import Derived.Test.YtmecbppblbmchaaGreatDoorM4
import Derived.Deep.CutRange
/- A state behind a pointer gets another store. What Commit comes to. -/
namespace Go.Proofs.YtmecbppblbmchaaGreatDoor
open Go.ChangeShapes Go.WideShapes Go.ChangeAt Go.RowKit Go.Sort
set_option linter.unusedVariables false
set_option maxRecDepth 100000

section
variable {base B s0 s1 : Nat} {w : World} {vs vt ve : Value} {m : Md} {wv : Nat → Value}
/-- Another store, in blocks of its own. -/
theorem PtrM.setS (h : PtrM base w B s0 s1 vs vt ve m wv) {w1 : World} (hb : Below w.heap.size w w1) {lo : Nat} {vs' : Value} {out : List Ch} (ho : OwnS lo w1 vs' out) (hlo : w.heap.size ≤ lo) (hlw : lo ≤ w1.heap.size) :
    PtrM base (w1.setCell ⟨B, 0, none⟩ vs') B lo w1.heap.size vs' vt ve { m with s := out } wv ∧ Below base w (w1.setCell ⟨B, 0, none⟩ vs') := by
  have hBl := h.box.lt
  have hz := hb.size
  have hne : ∀ g, g ≠ B → (w1.setCell ⟨B, 0, none⟩ vs').heap[g]? = w1.heap[g]? := fun g hg => Below.heap_setCell _ _ _ _ hg
  have hk : ∀ g, g < w.heap.size → g ≠ B → (w1.setCell ⟨B, 0, none⟩ vs').heap[g]? = w.heap[g]? := fun g h1 h2 => (hne g h2).trans (hb.block g h1)
  have hT : OwnT lo w1.heap.size w1 vs' out := ho
  refine ⟨⟨⟨hT.keep fun k h1 h2 h3 => hne k (by omega), ⟨by have := h.base; omega, hlw, by rw [size_setCell]; exact Nat.le_refl _⟩, owns_keepM h.own.x fun g hg hl => hk g hl (fun e => h.apart 0 (by omega) (e ▸ hg)), fun i hi => owns_keepM (h.own.xw i hi) fun g hg hl => hk g hl (fun e => h.apart (i + 2) (by have : i < m.x.length := hi; omega) (e ▸ hg)), owns_keepM h.own.h fun g hg hl => hk g hl (fun e => h.apart 1 (by omega) (e ▸ hg)), fun a ha g hg => ?_, h.own.apart⟩, ?_, h.base, .inl (by omega), h.apart⟩, ?_⟩
  · have := (h.own.lt a ha g hg).2
    exact .inl (by omega)
  · refine ((h.box.of_block (hb.block B hBl)).set 0 vs').congr fun j hj => ?_
    match j, hj with
    | 0, _ => rfl
    | 1, _ => rfl
    | 2, _ => rfl
    | 3, _ => rfl
    | 4, _ => rfl
  · exact (hb.mono (by have := h.base; omega)).setCell (p := ⟨B, 0, none⟩) h.base _
end

/-- The state when transaction i has ended with what it wrote. -/
def cmM (m : Md) (tx : Int) (i : Nat) (out : List Ch) : Md := { s := out, c := m.c + 1, n := m.n, x := m.x.eraseIdx i, h := m.h ++ [⟨4, tx, 0, 0, 0, m.c + 1⟩] }
/-- What Commit comes to. -/
def RC (m x : Md) (tx code : Int) : Prop :=
  (mgrOk m ∧ m.h.length ≤ 2998 ∧ ∃ i o1 o2, IsTx m tx i ∧ ¬ lostP m.s (tAt m.x i).w (tAt m.x i).s ∧ InAns m.s (m.c + 1) (tAt m.x i).w o1 true ∧ PAns o1 (oldS (m.c + 1) (m.x.eraseIdx i) (m.x.eraseIdx i).length) o2 ∧ x = cmM m tx i o2 ∧ code = 0) ∨
  ((¬ mgrOk m ∨ NoTx m tx) ∧ x = md0 ∧ code = 1) ∨
  (mgrOk m ∧ (∃ i, IsTx m tx i) ∧ ¬ m.h.length ≤ 2998 ∧ x = md0 ∧ code = 2) ∨
  (mgrOk m ∧ m.h.length ≤ 2998 ∧ (∃ i, IsTx m tx i ∧ lostP m.s (tAt m.x i).w (tAt m.x i).s) ∧ x = md0 ∧ code = 3) ∨
  (mgrOk m ∧ m.h.length ≤ 2998 ∧ (∃ i o1, IsTx m tx i ∧ ¬ lostP m.s (tAt m.x i).w (tAt m.x i).s ∧ InAns m.s (m.c + 1) (tAt m.x i).w o1 false) ∧ x = md0 ∧ code = 2)
theorem noTx_not2 {m : Md} {tx : Int} {i : Nat} (h : NoTx m tx) (hi : IsTx m tx i) : False := h i hi.1 hi.2.1
theorem pAns_one {l : List Ch} {h : Int} {a b : List Ch} (h1 : PAns l h a) (h2 : PAns l h b) : a = b := by
  rcases h1 with ⟨p, rfl⟩ | ⟨p, rfl⟩ <;> rcases h2 with ⟨q, rfl⟩ | ⟨q, rfl⟩
  · rfl
  · exact absurd q p
  · exact absurd p q
  · rfl
theorem RC.one {m x x' : Md} {tx code code' : Int} (h : RC m x tx code) (h' : RC m x' tx code') : x = x' ∧ code = code' := by
  rcases h with ⟨a, b, i, o1, o2, hi, hl, hI, hP, rfl, rfl⟩ | ⟨a, rfl, rfl⟩ | ⟨a, ⟨i, hi⟩, b, rfl, rfl⟩ | ⟨a, b, ⟨i, hi, hl⟩, rfl, rfl⟩ | ⟨a, b, ⟨i, o1, hi, hl, hI⟩, rfl, rfl⟩ <;> rcases h' with ⟨a', b', i', o1', o2', hi', hl', hI', hP', rfl, rfl⟩ | ⟨a', rfl, rfl⟩ | ⟨a', ⟨i', hi'⟩, b', rfl, rfl⟩ | ⟨a', b', ⟨i', hi', hl'⟩, rfl, rfl⟩ | ⟨a', b', ⟨i', o1', hi', hl', hI'⟩, rfl, rfl⟩ <;>
    first
      | exact ⟨rfl, rfl⟩
      | (obtain rfl := hi.one hi'
         first
           | exact absurd hl' hl
           | exact absurd hl hl'
           | (obtain ⟨rfl, e⟩ := hI.one hI'; first | (obtain rfl := pAns_one hP hP'; exact ⟨rfl, rfl⟩) | cases e)
           | exact absurd b b'
           | exact absurd b' b)
      | (rcases a' with h | h
         · exact absurd a h
         · exact (noTx_not2 h hi).elim)
      | (rcases a with h | h
         · exact absurd a' h
         · exact (noTx_not2 h hi').elim)
      | exact absurd b' b
      | exact absurd b b'
end Go.Proofs.YtmecbppblbmchaaGreatDoor

/- What a call on the copy of a state leaves. -/
namespace Go.Proofs.YtmecbppblbmchaaGreatDoor
open Go.ChangeShapes Go.WideShapes Go.ChangeAt Go.RowKit Go.Sort
set_option linter.unusedVariables false

/-- What a call on the copy leaves: the state anew, or nothing and a refusal. -/
def InM (base B : Nat) (w : World) (e : Ending) (x : Md) (code : Int) : Prop := (code = 0 ∧ e = .returned .nilIface ∧ ∃ s0 s1 vs vt ve wv, PtrM base w B s0 s1 vs vt ve x wv) ∨ (x = md0 ∧ e = .returned (refE code))
end Go.Proofs.YtmecbppblbmchaaGreatDoor

/- The program's commit, on a state behind a pointer. -/
namespace Go.Proofs.YtmecbppblbmchaaGreatDoor
open Go.ChangeShapes Go.WideShapes Go.ChangeAt Go.RowKit Go.Sort
set_option linter.unusedVariables false
set_option maxRecDepth 100000
attribute [local go_sem ↓] Go.wp_at_zero Go.wp_at_succ

theorem InAns.wfCh {l : List Ch} {h : Int} {r : List Rw} {a : List Ch} {b : Bool} (ha : InAns l h r a b) : WfCh a := by
  rcases ha with ⟨_, rfl, _⟩ | ⟨_, _, ks, hk, rfl⟩
  · exact fun i hi => absurd hi (Nat.not_lt_zero _)
  · intro i hi
    rw [chainsOf_length] at hi
    rw [chainsOf_at ks _ hi]
    exact hk.2.2.1 _ (by simp [vAt, hi])
theorem build_evC (x c : Int) (w : World) : (Instr.build 101 #[(0, .int .i64 4), (1, .int .i64 x), (4, .int .i64 c)]).run Tryz.prog w = .ok (.agg #[.int .i64 4, .int .i64 x, .int .i64 0, .int .i64 0, .int .i64 0, .int .i64 c]) w := by kernel_rfl

/-- What commit comes to on a state behind a pointer. -/
def CmP (base B : Nat) (m : Md) (tx : Int) (w w' : World) (e : Ending) : Prop := Below base w w' ∧ ∃ x code, RC m x tx code ∧ InM base B w' e x code
set_option maxHeartbeats 16000000 in
theorem commit_p (base B s0 s1 : Nat) (vs vt ve : Value) (m : Md) (wv : Nat → Value) (tx : Int) (w : World) (h : PtrM base w B s0 s1 vs vt ve m wv) (hn : SmallM' m) (hwf : WfM m) :
    Calls Tryz.prog 52 #[.pointer (some ⟨B, 0, none⟩), .int .i64 tx] w fun e w' => CmP base B m tx w w' e := by
  have hM := h.own.mat hn
  obtain ⟨a1, cap1, hv1⟩ : ∃ a cap, vs = .slice a m.s.length cap := by obtain ⟨a, cap, h1, _⟩ := hM.s; exact ⟨a, cap, h1⟩
  obtain ⟨a2, cap2, hv2⟩ : ∃ a cap, vt = .slice a m.x.length cap := by obtain ⟨a, cap, h1, _⟩ := hM.x; exact ⟨a, cap, h1⟩
  obtain ⟨a3, cap3, hv3⟩ : ∃ a cap, ve = .slice a m.h.length cap := by obtain ⟨a, cap, h1, _⟩ := hM.h; exact ⟨a, cap, h1⟩
  subst hv1 hv2 hv3
  have hbase := h.base
  have hBl := h.box.lt
  have hhl := hn.h
  have hxl := hn.x
  go_enter Tryz.func52, Tryz.ntmps52
  go_wp2_with fail
  refine (underWay_any B _ a2 cap2 _ m tx _ h.mbox hM).mono ?_
  rintro e w1 ⟨hU, hb1⟩
  have b1 : Below base w w1 := hb1.mono (by omega)
  have h1 := h.stays hb1
  have hM1 := hM.stays hb1
  clear hM h
  rcases hU with ⟨hok, i, bt, off, hi, e1, rfl⟩ | ⟨hno, rfl⟩
  · have hone := txs_one hok hi
    have HO : Hid (mgrOk m) := hok
    have HI : Hid (IsTx m tx i) := hi
    have HU : Hid (OneTx m tx i) := hone
    have hil := hi.1
    have hso : storeOk m.s := hok.1
    have hro : rowsOk (tAt m.x i).w := (hok.2.2.2.2.2.2.2 i hil).2.2.2.2.2
    have hc1 := hok.2.1
    have hc0 : 0 ≤ m.c ∧ m.c ≤ 1000000 := by simpa only [hourB, decide_eq_true_eq] using hc1
    obtain ⟨g, hg, hgb, y0, _⟩ := owns_cell h1.own.x (txc_get m.x wv hil).1
    subst hg
    obtain ⟨rfl, rfl⟩ : g = bt ∧ 0 = off := by injection e1 with e1; injection e1 with e1 e2; exact ⟨e1, e2⟩
    obtain ⟨_, e2, _, y1, _⟩ := owns_cell h1.own.x (txc_get m.x wv hil).2.1
    cases e2
    obtain ⟨_, e2, _, y2, _⟩ := owns_cell h1.own.x (txc_get m.x wv hil).2.2
    cases e2
    obtain ⟨wa, wcp, hwv⟩ := owns_sliceM (h1.own.xw i hil)
    rw [hwv] at y2
    have hW := rows_ofOwns (h1.own.xw i hil) (hn.w i hil)
    rw [hwv] at hW
    have hwl : (tAt m.x i).w.length ≤ 1048576 := by have := hro.1; omega
    have hgl : g < w1.heap.size := cell_lt y0
    clear hok hi hone hc1 hwv
    obtain ⟨x0, x1, x2, x3, x4⟩ := h1.mbox
    by_cases e3 : m.h.length ≤ 2998
    · have HE : Hid (m.h.length ≤ 2998) := e3
      go_wp2_with fail
      refine (hasRoom_any a1 (some ⟨g, 0, none⟩) a3 _ cap1 _ cap2 _ cap3 m.c m.n _ hhl).mono ?_
      rw [decide_eq_true e3]
      rintro e w2 ⟨rfl, hb2⟩
      have b2 := b1.trans (hb2.mono (by have := h1.box.lt; omega))
      have h2 := h1.stays hb2
      have hM2 := hM1.stays hb2
      have hW2 := hW.stays hb2
      have z0 := cell_stays hb2 x0
      have z1 := cell_stays hb2 y0
      have z2 := cell_stays hb2 y1
      have z3 := cell_stays hb2 y2
      have z4 := cell_stays hb2 x1
      have hgl2 : g < w2.heap.size := cell_lt z1
      clear e3 hW x0 x1 x2 x3 x4 y0 y1 y2 hb2 b1 h1 hM1 hb1
      have g0 := cell_regrown z0
      have g1 := cell_regrown z1
      have g2 := cell_regrown z2
      have g3 := cell_regrown z3
      have HRun : ∀ W, Below w2.heap.size w2 W → Calls Tryz.prog 92 #[.agg #[.slice a1 m.s.length cap1], .agg #[.int .i64 (tAt m.x i).i, .int .i64 (tAt m.x i).s, .slice wa (tAt m.x i).w.length wcp]] W fun e w' => Says e (lostP m.s (tAt m.x i).w (tAt m.x i).s) ∧ Below W.heap.size W w' := fun W hWb => outrun_any _ m.s _ _ _ (tAt m.x i).w W ((hM2.s.stays hWb).wide' (Nat.zero_le _) (Nat.le_max_left _ _)) ((hW2.stays hWb).wide (Nat.zero_le _) (Nat.le_max_right _ _)) hso hro hwf.1 (hwf.2 i hil)
      by_cases hl : lostP m.s (tAt m.x i).w (tAt m.x i).s
      · have HL : Hid (lostP m.s (tAt m.x i).w (tAt m.x i).s) := hl
        have HC : ∀ W, Below w2.heap.size w2 W → Calls Tryz.prog 92 #[.agg #[.slice a1 m.s.length cap1], .agg #[.int .i64 (tAt m.x i).i, .int .i64 (tAt m.x i).s, .slice wa (tAt m.x i).w.length wcp]] W fun e w' => e = .returned (.bool true) ∧ Below W.heap.size W w' := fun W hWb => (HRun W hWb).mono (by rintro e w' ⟨⟨q, rfl, hq⟩, hb⟩; obtain rfl := hq.2 hl; exact ⟨rfl, hb⟩)
        clear hl HRun
        go_wp2_with fail
        refine wp_region_quiet_below (by kernel_rfl) (by kernel_rfl) ?_
        repeat (go_big_quiet_step (first | (go_at_call 92; exact Calls.regrown_of (HC _ (below_regrown _ _ _)))))
        refine wpQuiet_nil ?_
        intro w3 hw3
        obtain ⟨⟨dq, osq⟩, hw4⟩ := hw3
        have hb3 : Below _ _ w3 := hw4 ▸ below_regrown _ dq osq
        clear hw4 g0 g1 g2 g3 HC
        have b3 := b2.trans (hb3.mono (by have := h2.box.lt; omega))
        go_wp2
        go_ret
        exact ⟨b3, md0, 3, .inr (.inr (.inr (.inl ⟨HO.out, HE.out, ⟨i, HI.out, HL.out⟩, rfl, rfl⟩))), .inr ⟨rfl, rfl⟩⟩
      · have HL : Hid (¬ lostP m.s (tAt m.x i).w (tAt m.x i).s) := hl
        have HC : ∀ W, Below w2.heap.size w2 W → Calls Tryz.prog 92 #[.agg #[.slice a1 m.s.length cap1], .agg #[.int .i64 (tAt m.x i).i, .int .i64 (tAt m.x i).s, .slice wa (tAt m.x i).w.length wcp]] W fun e w' => e = .returned (.bool false) ∧ Below W.heap.size W w' := fun W hWb => (HRun W hWb).mono (by rintro e w' ⟨⟨q, rfl, hq⟩, hb⟩; obtain rfl := says_false hq hl; exact ⟨rfl, hb⟩)
        clear hl HRun
        go_wp2_with fail
        refine wp_region_quiet_below (by kernel_rfl) (by kernel_rfl) ?_
        repeat (go_big_quiet_step (first | (go_at_call 92; exact Calls.regrown_of (HC _ (below_regrown _ _ _)))))
        refine wpQuiet_nil ?_
        intro w3 hw3
        obtain ⟨⟨dq, osq⟩, hw4⟩ := hw3
        have hb3 : Below _ _ w3 := hw4 ▸ below_regrown _ dq osq
        clear hw4 g0 g1 g2 g3 HC
        have b3 := b2.trans (hb3.mono (by have := h2.box.lt; omega))
        have h3 := h2.stays hb3
        have hM3 := hM2.stays hb3
        have hW3 := hW2.stays hb3
        have u0 := cell_stays hb3 z0
        have u1 := cell_stays hb3 z4
        have u2 := cell_stays hb3 z3
        have hgl3 : g < w3.heap.size := cell_lt u2
        clear hW2 z0 z1 z2 z3 z4 hb3 b2 h2 hM2
        have hwr : IntKind.i64.wrap (m.c + 1) = m.c + 1 := by rw [IntKind.wrap_i64] <;> omega
        have HInst : ∀ W, Below w3.heap.size w3 W → Calls Tryz.prog 93 #[.agg #[.slice a1 m.s.length cap1], .int .i64 (m.c + 1), .slice wa (tAt m.x i).w.length wcp] W fun e w' => InA W.heap.size w' m.s (m.c + 1) (tAt m.x i).w e ∧ Below W.heap.size W w' := fun W hWb => (implInstall_own _ m.s _ _ (tAt m.x i).w W (hM3.s.stays hWb) (hW3.stays hWb) hwf.1 (hwf.2 i hil) hn.s hwl).mono (by rintro e w' ⟨h1, h2⟩; exact ⟨h1.inA, h2⟩)
        go_upto_region 8 with (fail)
        go_cut [7, 8] from 35 to 51 (fun t7 t8 wc => ∃ V lo sa sn sc o1 b, t7 = .pointer (some ⟨V, 0, none⟩) ∧ t8 = .bool b ∧ InAns m.s (m.c + 1) (tAt m.x i).w o1 b ∧ OwnS lo wc (.slice sa sn sc) o1 ∧ wc.cell? ⟨V, 0, none⟩ = some (.slice sa sn sc) ∧ Below w3.heap.size w3 wc ∧ w3.heap.size ≤ lo ∧ lo ≤ wc.heap.size ∧ w3.heap.size ≤ V)
        case first =>
          have t0 : Below w3.heap.size w3 w3.drew := (Below.refl _ _).drew
          have TA : ∀ x, Below w3.heap.size w3 x → x.cell? ⟨B, 0, none⟩ = some (.slice a1 m.s.length cap1) ∧ x.cell? ⟨B, 1, none⟩ = some (.int .i64 m.c) ∧ x.cell? ⟨g, i * 3 + 2, none⟩ = some (.slice wa (tAt m.x i).w.length wcp) := fun x hx => ⟨cell_stays hx u0, cell_stays hx u1, cell_stays hx u2⟩
          refine region_all (fun x => x.cell? ⟨B, 0, none⟩ = some (.slice a1 m.s.length cap1) ∧ x.cell? ⟨B, 1, none⟩ = some (.int .i64 m.c) ∧ x.cell? ⟨g, i * 3 + 2, none⟩ = some (.slice wa (tAt m.x i).w.length wcp)) (by kernel_rfl) (TA _ t0) (fun hHeld0 => ?_)
          simp only [List.length_cons, List.length_nil, Nat.reduceAdd]
          refine takeL (i := 0) (v := ?_) rfl (by kernel_rfl) (by kernel_rfl) (by kernel_rfl) (fun _ _ _ h => h) rfl (by assumption) ?_ ?_
          rotate_left
          · (intro wS hSw; (try dsimp only at hSw); go_simp; try with_reducible rfl)
          (try simp only [Act.put, List.setIfInBounds_toArray, List.set_cons_zero, List.set_cons_succ])
          refine takeL (i := 1) (v := ?_) rfl (by kernel_rfl) (by kernel_rfl) (by kernel_rfl) (fun _ _ _ h => h) rfl (by assumption) ?_ ?_
          rotate_left
          · (intro wS hSw; (try dsimp only at hSw); go_simp; try with_reducible rfl)
          (try simp only [Act.put, List.setIfInBounds_toArray, List.set_cons_zero, List.set_cons_succ])
          refine takeL (i := 2) (v := ?_) rfl (by kernel_rfl) (by kernel_rfl) (by kernel_rfl) (fun _ _ _ h => h) rfl (by assumption) ?_ ?_
          rotate_left
          · (intro wS hSw; (try dsimp only at hSw); go_simp; try with_reducible rfl)
          (try simp only [Act.put, List.setIfInBounds_toArray, List.set_cons_zero, List.set_cons_succ])
          refine takeL (i := 3) (v := ?_) rfl (by kernel_rfl) (by kernel_rfl) (by kernel_rfl) (fun _ _ _ h => h) rfl (by assumption) ?_ ?_
          rotate_left
          · (intro wS hSw; (try dsimp only at hSw); go_simp; try with_reducible rfl)
          (try simp only [Act.put, List.setIfInBounds_toArray, List.set_cons_zero, List.set_cons_succ])
          refine takeL (i := 4) (v := ?_) rfl (by kernel_rfl) (by kernel_rfl) (by kernel_rfl) (fun _ _ _ h => h) rfl (by assumption) ?_ ?_
          rotate_left
          · (intro wS hSw; (try dsimp only at hSw); go_simp; try with_reducible rfl)
          (try simp only [Act.put, List.setIfInBounds_toArray, List.set_cons_zero, List.set_cons_succ])
          refine takeL (i := 5) (v := ?_) rfl (by kernel_rfl) (by kernel_rfl) (by kernel_rfl) (fun _ _ _ h => h) rfl (by assumption) ?_ ?_
          rotate_left
          · (intro wS hSw; (try dsimp only at hSw); go_simp; try with_reducible rfl)
          (try simp only [Act.put, List.setIfInBounds_toArray, List.set_cons_zero, List.set_cons_succ])
          refine takeL (i := 6) (v := ?_) rfl (by kernel_rfl) (by kernel_rfl) (by kernel_rfl) (fun _ _ _ h => h) rfl (by assumption) ?_ ?_
          rotate_left
          · (intro wS hSw; (try dsimp only at hSw); go_simp; try with_reducible rfl)
          (try simp only [Act.put, List.setIfInBounds_toArray, List.set_cons_zero, List.set_cons_succ])
          refine takeL (i := 7) (v := ?_) rfl (by kernel_rfl) (by kernel_rfl) (by kernel_rfl) (fun _ _ _ h => h) rfl (by assumption) ?_ ?_
          rotate_left
          · (intro wS hSw; (try dsimp only at hSw); go_simp; try with_reducible rfl)
          (try simp only [Act.put, List.setIfInBounds_toArray, List.set_cons_zero, List.set_cons_succ])
          refine takeL (i := 8) (v := ?_) rfl (by kernel_rfl) (by kernel_rfl) (by kernel_rfl) (fun _ _ _ h => h) rfl (by assumption) ?_ ?_
          rotate_left
          · (intro wS hSw; (try dsimp only at hSw); go_simp; try with_reducible rfl)
          (try simp only [Act.put, List.setIfInBounds_toArray, List.set_cons_zero, List.set_cons_succ])
          refine takeL (i := 9) (v := ?_) rfl (by kernel_rfl) (by kernel_rfl) (by kernel_rfl) (fun _ _ _ h => h) rfl (by assumption) ?_ ?_
          rotate_left
          · (intro wS hSw; (try dsimp only at hSw); go_simp; try with_reducible rfl)
          (try simp only [Act.put, List.setIfInBounds_toArray, List.set_cons_zero, List.set_cons_succ])
          refine takeL (i := 10) (v := ?_) rfl (by kernel_rfl) (by kernel_rfl) (by kernel_rfl) (fun _ _ _ h => h) rfl (by assumption) ?_ ?_
          rotate_left
          · (intro wS hSw; (try dsimp only at hSw); go_simp; try with_reducible rfl)
          (try simp only [Act.put, List.setIfInBounds_toArray, List.set_cons_zero, List.set_cons_succ])
          refine takeL (i := 11) (v := ?_) rfl (by kernel_rfl) (by kernel_rfl) (by kernel_rfl) (fun _ _ _ h => h) rfl (by assumption) ?_ ?_
          rotate_left
          · (intro wS hSw; (try dsimp only at hSw); go_simp; try with_reducible rfl)
          (try simp only [Act.put, List.setIfInBounds_toArray, List.set_cons_zero, List.set_cons_succ])
          refine takeL (i := 12) (v := ?_) rfl (by kernel_rfl) (by kernel_rfl) (by kernel_rfl) (fun _ _ _ h => h) rfl (by assumption) ?_ ?_
          rotate_left
          · (intro wS hSw; (try dsimp only at hSw); go_simp; try with_reducible rfl)
          (try simp only [Act.put, List.setIfInBounds_toArray, List.set_cons_zero, List.set_cons_succ])
          refine step2L (i := 13) (j := 17) rfl rfl (by kernel_rfl) (fun K hK => ?_) (fun K hK => ?_)
          · rw [if_pos (by rfl)]
            go_simp
            refine (HInst _ t0).mono ?_
            rintro e w6 ⟨⟨sa, sn, sc, o1, b, rfl, hOS, hAns⟩, hb6⟩
            have t6 : Below w3.heap.size w3 w6 := t0.trans (hb6.mono t0.size)
            refine hK.out _ _ (TA _ t6) (fun hHeld1 => ?_)
            clear hK K hHeld0
            (try simp only [Act.put, List.setIfInBounds_toArray, List.set_cons_zero, List.set_cons_succ])
            refine takeL (i := 14) (v := ?_) rfl (by kernel_rfl) (by kernel_rfl) (by kernel_rfl) (fun _ _ _ h => h) rfl (by assumption) ?_ ?_
            rotate_left
            · (intro wS hSw; (try dsimp only at hSw); go_simp; try with_reducible rfl)
            (try simp only [Act.put, List.setIfInBounds_toArray, List.set_cons_zero, List.set_cons_succ])
            refine takeL (i := 15) (v := ?_) rfl (by kernel_rfl) (by kernel_rfl) (by kernel_rfl) (fun _ _ _ h => h) rfl (by assumption) ?_ ?_
            rotate_left
            · (intro wS hSw; (try dsimp only at hSw); go_simp; try with_reducible rfl)
            (try simp only [Act.put, List.setIfInBounds_toArray, List.set_cons_zero, List.set_cons_succ])
            refine takeL (i := 16) (v := ?_) rfl (by kernel_rfl) (by kernel_rfl) (by kernel_rfl) (fun _ _ _ h => h) rfl (by assumption) ?_ ?_
            rotate_left
            · (intro wS hSw; (try dsimp only at hSw); go_simp; try with_reducible rfl)
            (try simp only [Act.put, List.setIfInBounds_toArray, List.set_cons_zero, List.set_cons_succ])
            refine stepL (i := 17) rfl (by kernel_rfl) (fun K hK => ?_)
            rw [if_pos (by rfl)]
            go_simp
            have t7 : Below w3.heap.size w3 (w6.alloc (Obj.cells #[Value.slice none 0 0] 32)) := t6.alloc t6.size _
            refine hK.out _ _ (TA _ t7) (fun hHeld2 => ?_)
            clear hK K hHeld1
            (try simp only [Act.put, List.setIfInBounds_toArray, List.set_cons_zero, List.set_cons_succ])
            refine stepL (i := 18) rfl (by kernel_rfl) (fun K hK => ?_)
            rw [if_pos (by rfl)]
            go_simp
            have t8 : Below w3.heap.size w3 (w6.alloc (Obj.cells #[Value.slice sa sn sc] 32)) := t6.alloc t6.size _
            refine hK.out _ _ (TA _ t8) (fun hHeld3 => ?_)
            clear hK K hHeld2
            (try simp only [Act.put, List.setIfInBounds_toArray, List.set_cons_zero, List.set_cons_succ])
            refine takeL (i := 19) (v := ?_) rfl (by kernel_rfl) (by kernel_rfl) (by kernel_rfl) (fun _ _ _ h => h) rfl (by assumption) ?_ ?_
            rotate_left
            · (intro wS hSw; (try dsimp only at hSw); go_simp; try with_reducible rfl)
            (try simp only [Act.put, List.setIfInBounds_toArray, List.set_cons_zero, List.set_cons_succ])
            refine wpAnyH_done (by kernel_rfl) ?_ _
            have HA : Hid (InAns m.s (m.c + 1) (tAt m.x i).w o1 b) := hAns
            clear hAns hHeld3
            go_wp2
            go_meet
            case rel => exact ⟨w6.heap.size, w3.heap.size, sa, sn, sc, o1, b, rfl, rfl, HA.out, hOS.stays (below_alX _ _), by simp [go_sem], t8, Nat.le_refl _, t8.size, t6.size⟩
          · rw [if_pos (by rfl)]
            go_simp
            have tA : Below w3.heap.size w3 (w3.drew.alloc (Obj.cells #[Value.slice none 0 0] 32)) := t0.alloc (by exact Nat.le_refl _) _
            have z0 : (w3.drew.alloc (Obj.cells #[Value.slice none 0 0] 32)).cell? ⟨w3.heap.size, 0, none⟩ = some (.slice none 0 0) := by simp [go_sem]
            have zf : (w3.drew.alloc (Obj.cells #[Value.slice none 0 0] 32)).frozen? ⟨w3.heap.size, 0, none⟩ = false := by simp [go_sem]
            have zz : w3.heap.size < (w3.drew.alloc (Obj.cells #[Value.slice none 0 0] 32)).heap.size := by simp
            refine hK.out _ _ (TA _ tA) (fun hHeld1 => ?_)
            clear hK K hHeld0
            (try simp only [Act.put, List.setIfInBounds_toArray, List.set_cons_zero, List.set_cons_succ])
            refine stepL (i := 13) rfl (by kernel_rfl) (fun K hK => ?_)
            rw [if_pos (by rfl)]
            go_simp
            refine (HInst _ tA).mono ?_
            rintro e w6 ⟨⟨sa, sn, sc, o1, b, rfl, hOS, hAns⟩, hb6⟩
            have t6 : Below w3.heap.size w3 w6 := tA.trans (hb6.mono tA.size)
            have z0' := cell_stays hb6 z0
            have zf' : w6.frozen? ⟨w3.heap.size, 0, none⟩ = false := by rw [hb6.frozen (by exact zz)]; exact zf
            refine hK.out _ _ (TA _ t6) (fun hHeld2 => ?_)
            clear hK K hHeld1
            (try simp only [Act.put, List.setIfInBounds_toArray, List.set_cons_zero, List.set_cons_succ])
            refine takeL (i := 14) (v := ?_) rfl (by kernel_rfl) (by kernel_rfl) (by kernel_rfl) (fun _ _ _ h => h) rfl (by assumption) ?_ ?_
            rotate_left
            · (intro wS hSw; (try dsimp only at hSw); go_simp; try with_reducible rfl)
            (try simp only [Act.put, List.setIfInBounds_toArray, List.set_cons_zero, List.set_cons_succ])
            refine takeL (i := 15) (v := ?_) rfl (by kernel_rfl) (by kernel_rfl) (by kernel_rfl) (fun _ _ _ h => h) rfl (by assumption) ?_ ?_
            rotate_left
            · (intro wS hSw; (try dsimp only at hSw); go_simp; try with_reducible rfl)
            (try simp only [Act.put, List.setIfInBounds_toArray, List.set_cons_zero, List.set_cons_succ])
            refine takeL (i := 16) (v := ?_) rfl (by kernel_rfl) (by kernel_rfl) (by kernel_rfl) (fun _ _ _ h => h) rfl (by assumption) ?_ ?_
            rotate_left
            · (intro wS hSw; (try dsimp only at hSw); go_simp; try with_reducible rfl)
            (try simp only [Act.put, List.setIfInBounds_toArray, List.set_cons_zero, List.set_cons_succ])
            refine stepL (i := 18) rfl (by kernel_rfl) (fun K hK => ?_)
            rw [if_pos (by rfl)]
            go_simp
            have t8 : Below w3.heap.size w3 (w6.setCell ⟨w3.heap.size, 0, none⟩ (.slice sa sn sc)) := t6.setCell (p := ⟨w3.heap.size, 0, none⟩) (Nat.le_refl _) _
            refine hK.out _ _ (TA _ t8) (fun hHeld3 => ?_)
            clear hK K hHeld2
            (try simp only [Act.put, List.setIfInBounds_toArray, List.set_cons_zero, List.set_cons_succ])
            refine takeL (i := 19) (v := ?_) rfl (by kernel_rfl) (by kernel_rfl) (by kernel_rfl) (fun _ _ _ h => h) rfl (by assumption) ?_ ?_
            rotate_left
            · (intro wS hSw; (try dsimp only at hSw); go_simp; try with_reducible rfl)
            (try simp only [Act.put, List.setIfInBounds_toArray, List.set_cons_zero, List.set_cons_succ])
            refine wpAnyH_done (by kernel_rfl) ?_ _
            have HA : Hid (InAns m.s (m.c + 1) (tAt m.x i).w o1 b) := hAns
            have hOS' := hOS.set (B := w3.heap.size) (by exact zz) (.slice sa sn sc)
            have hz68 := size_setCell w6 ⟨w3.heap.size, 0, none⟩ (.slice sa sn sc)
            have hzb := hb6.size
            clear hAns hHeld3
            go_wp2
            go_meet
            case rel => exact ⟨w3.heap.size, _, sa, sn, sc, o1, b, rfl, rfl, HA.out, hOS', by simp [go_sem, z0'], t8, Nat.le_of_lt zz, by rw [hz68]; exact hzb, Nat.le_refl _⟩
        case rest =>
          obtain ⟨V, lo, sa, sn, sc, o1, b, rfl, rfl, hAns, hOS, hV, bX, hlo1, hlo2, hV0⟩ := hcut
          have HA : Hid (InAns m.s (m.c + 1) (tAt m.x i).w o1 b) := hAns
          have hsm := hAns.small
          have hwo := hAns.wfCh
          have b4 := b3.trans (bX.mono (by have := h3.box.lt; omega))
          have h4 := h3.stays bX
          have hz4 := bX.size
          have hB3 := h3.box.lt
          have hgB : g ≠ B := fun e => h3.apart 0 (by omega) (by rw [e]; rfl)
          have hvl : ∀ k, (Value.slice a3 m.h.length cap3).ownBlock = some k → k < w3.heap.size := fun k hk => (owns_ltM h3.own.h hk).2
          clear hAns HInst u0 u1 u2 hM3 hW3 b3 h3
          generalize wc = w4 at *
          cases b with
          | false =>
            go_wp2
            go_ret
            exact ⟨b4, md0, 2, .inr (.inr (.inr (.inr ⟨HO.out, HE.out, ⟨i, o1, HI.out, HL.out, HA.out⟩, rfl, rfl⟩))), .inr ⟨rfl, rfl⟩⟩
          | true =>
            obtain ⟨c1, f1⟩ := h4.cell (j := 1) (by omega)
            simp only [bxf] at c1
            have h5 := h4.setC (m.c + 1)
            have b5 := b4.setCell (p := ⟨B, 1, none⟩) hbase (.int .i64 (m.c + 1))
            have hOS5 : OwnS lo (w4.setCell ⟨B, 1, none⟩ (.int .i64 (m.c + 1))) (.slice sa sn sc) o1 := hOS.keep (fun k h1 h2 => Below.heap_setCell _ _ _ _ (by show k ≠ B; omega)) (by rw [size_setCell]; exact Nat.le_refl _)
            have hV5 : (w4.setCell ⟨B, 1, none⟩ (.int .i64 (m.c + 1))).cell? ⟨V, 0, none⟩ = some (.slice sa sn sc) := cell_same (Below.heap_setCell _ _ _ _ (by show V ≠ B; omega)) hV
            have hz5 : w4.heap.size ≤ (w4.setCell ⟨B, 1, none⟩ (.int .i64 (m.c + 1))).heap.size := by rw [size_setCell]; exact Nat.le_refl _
            clear hOS hV b4 h4 bX
            go_wp2_with fail
            generalize w4.setCell ⟨B, 1, none⟩ (.int .i64 (m.c + 1)) = W5 at *
            clear c1 f1
            obtain ⟨c1, _⟩ := h5.cell (j := 1) (by omega)
            obtain ⟨c4, _⟩ := h5.cell (j := 4) (by omega)
            simp only [bxf] at c1 c4
            obtain ⟨ti, hI, hz0, hz1, hz2⟩ := info_parts infoEv
            have hB5l := h5.box.lt
            have hzW : base ≤ W5.heap.size := by omega
            have bD := (Below.refl W5.heap.size W5).drew
            refine region_last (fun x => x.cell? ⟨B, 1, none⟩ = some (.int .i64 (m.c + 1)) ∧ x.cell? ⟨B, 4, none⟩ = some (.slice a3 m.h.length cap3)) (by kernel_rfl) (by kernel_rfl) (by kernel_rfl) ⟨cell_stays bD c1, cell_stays bD c4⟩ (fun hHeld0 => ?_)
            simp only [List.dropLast, List.length_cons, List.length_nil, Nat.reduceAdd]
            have hbt := build_evC tx (m.c + 1)
            refine takeL (i := 0) (v := ?_) rfl (by kernel_rfl) (by kernel_rfl) (by kernel_rfl) (fun _ _ _ h => h) rfl (by assumption) ?_ ?_
            rotate_left
            · (intro wS hSw; (try dsimp only at hSw); go_simp; try with_reducible rfl)
            (try simp only [Act.put, List.setIfInBounds_toArray, List.set_cons_zero, List.set_cons_succ])
            refine takeL (i := 1) (v := ?_) rfl (by kernel_rfl) (by kernel_rfl) (by kernel_rfl) (fun _ _ _ h => h) rfl (by assumption) ?_ ?_
            rotate_left
            · (intro wS hSw; (try dsimp only at hSw); go_simp; try with_reducible rfl)
            (try simp only [Act.put, List.setIfInBounds_toArray, List.set_cons_zero, List.set_cons_succ])
            refine takeL (i := 2) (v := ?_) rfl (by kernel_rfl) (by kernel_rfl) (by kernel_rfl) (fun _ _ _ h => h) rfl (by assumption) ?_ ?_
            rotate_left
            · (intro wS hSw; (try dsimp only at hSw); go_simp; try with_reducible rfl)
            (try simp only [Act.put, List.setIfInBounds_toArray, List.set_cons_zero, List.set_cons_succ])
            refine takeL (i := 3) (v := ?_) rfl (by kernel_rfl) (by kernel_rfl) (by kernel_rfl) (fun _ _ _ h => h) rfl (by assumption) ?_ ?_
            rotate_left
            · (intro wS hSw; (try dsimp only at hSw); go_simp; try with_reducible rfl)
            (try simp only [Act.put, List.setIfInBounds_toArray, List.set_cons_zero, List.set_cons_succ])
            refine takeL (i := 4) (v := ?_) rfl (by kernel_rfl) (by kernel_rfl) (by kernel_rfl) (fun _ _ _ h => h) rfl (by assumption) ?_ ?_
            rotate_left
            · (intro wS hSw; (try dsimp only at hSw); go_simp; try with_reducible rfl)
            (try simp only [Act.put, List.setIfInBounds_toArray, List.set_cons_zero, List.set_cons_succ])
            refine takeL (i := 5) (v := ?_) rfl (by kernel_rfl) (by kernel_rfl) (by kernel_rfl) (fun _ _ _ h => h) rfl (by assumption) ?_ ?_
            rotate_left
            · (intro wS hSw; (try dsimp only at hSw); go_simp; try with_reducible rfl)
            (try simp only [Act.put, List.setIfInBounds_toArray, List.set_cons_zero, List.set_cons_succ])
            refine takeL (i := 6) (v := ?_) rfl (by kernel_rfl) (by kernel_rfl) (by kernel_rfl) (fun _ _ _ h => h) rfl (by assumption) ?_ ?_
            rotate_left
            · (intro wS hSw; (try dsimp only at hSw); go_simp; try with_reducible rfl)
            (try simp only [Act.put, List.setIfInBounds_toArray, List.set_cons_zero, List.set_cons_succ])
            refine takeL (i := 7) (v := ?_) rfl (by kernel_rfl) (by kernel_rfl) (by kernel_rfl) (fun _ _ _ h => h) rfl (by assumption) ?_ ?_
            rotate_left
            · (intro wS hSw; (try dsimp only at hSw); go_simp; try with_reducible rfl)
            (try simp only [Act.put, List.setIfInBounds_toArray, List.set_cons_zero, List.set_cons_succ])
            refine takeL (i := 8) (v := ?_) rfl (by kernel_rfl) (by kernel_rfl) (by kernel_rfl) (fun _ _ _ h => h) rfl (by assumption) ?_ ?_
            rotate_left
            · (intro wS hSw; (try dsimp only at hSw); go_simp; try with_reducible rfl)
            (try simp only [Act.put, List.setIfInBounds_toArray, List.set_cons_zero, List.set_cons_succ])
            refine takeL (i := 9) (v := ?_) rfl (by kernel_rfl) (by kernel_rfl) (by kernel_rfl) (fun _ _ _ h => h) rfl (by assumption) ?_ ?_
            rotate_left
            · (intro wS hSw; (try dsimp only at hSw); go_simp; try with_reducible rfl)
            (try simp only [Act.put, List.setIfInBounds_toArray, List.set_cons_zero, List.set_cons_succ])
            refine takeL (i := 10) (v := ?_) rfl (by kernel_rfl) (by kernel_rfl) (by kernel_rfl) (fun _ _ _ h => h) rfl (by assumption) ?_ ?_
            rotate_left
            · (intro wS hSw; (try dsimp only at hSw); go_simp; try with_reducible rfl)
            (try simp only [Act.put, List.setIfInBounds_toArray, List.set_cons_zero, List.set_cons_succ])
            refine stepL (i := 11) rfl (by kernel_rfl) (fun K hK => ?_)
            rw [if_pos (by rfl)]
            go_simp
            have bA := bD.alloc (by exact Nat.le_refl _) (Obj.cells #[.int .i64 4, .int .i64 tx, .int .i64 0, .int .i64 0, .int .i64 0, .int .i64 (m.c + 1)] 101)
            refine hK.out _ _ ⟨cell_stays bA c1, cell_stays bA c4⟩ (fun hHeld1 => ?_)
            clear hK K hHeld0
            (try simp only [Act.put, List.setIfInBounds_toArray, List.set_cons_zero, List.set_cons_succ])
            refine stepL (i := 12) rfl (by kernel_rfl) (fun K hK => ?_)
            have hXA := owns_keepM h5.own.h fun g hg hl => bA.block g hl
            refine step_append_lies _ (by rfl) _ _ _ (by rfl) base 101 ti _ 6 48 Tryz.underlying34 hI hz0 hz1 hz2 rfl (by omega) (.slice a3 m.h.length cap3) m.h.length (hexa m.h) (by rfl) hXA ⟨W5.heap.size, 0, none⟩ 1 1 [.int .i64 4, .int .i64 tx, .int .i64 0, .int .i64 0, .int .i64 0, .int .i64 (m.c + 1)] (by rfl) (by rfl) (newsM W5.drew _ _) (by intro u hu; simp at hu; rcases hu with rfl | rfl | rfl | rfl | rfl | rfl <;> rfl) (by omega) (by unfold maxLen; omega) (by omega) (by simp; omega) (W5.heap.size + 1) (by simp) ?_
            intro gg cap5 w6 hown6 hgrow6 hat6 hlt6
            have hnB := h5.apart 1 (by omega)
            have k5 : ∀ (o : Nat) (u : Value), W5.cell? ⟨B, o, none⟩ = some u → w6.cell? ⟨B, o, none⟩ = some u := fun o u hu => cell_same (hgrow6.block B (Nat.lt_of_lt_of_le hB5l (by have := bA.size; exact this)) (fun e => hnB e.symm)) (cell_stays bA hu)
            refine hK.out _ _ ⟨k5 _ _ c1, k5 _ _ c4⟩ (fun hHeld2 => ?_)
            clear hK K hHeld1
            (try simp only [Act.put, List.setIfInBounds_toArray, List.set_cons_zero, List.set_cons_succ])
            refine takeL (i := 13) (v := ?_) rfl (by kernel_rfl) (by kernel_rfl) (by kernel_rfl) (fun _ _ _ h => h) rfl (by assumption) ?_ ?_
            rotate_left
            · (intro wS hSw; (try dsimp only at hSw); go_simp; try with_reducible rfl)
            (try simp only [Act.put, List.setIfInBounds_toArray, List.set_cons_zero, List.set_cons_succ])
            refine takeL (i := 14) (v := ?_) rfl (by kernel_rfl) (by kernel_rfl) (by kernel_rfl) (fun _ _ _ h => h) rfl (by assumption) ?_ ?_
            rotate_left
            · (intro wS hSw; (try dsimp only at hSw); go_simp; try with_reducible rfl)
            (try simp only [Act.put, List.setIfInBounds_toArray, List.set_cons_zero, List.set_cons_succ])
            have hB5 := h5.box.of_block (show w6.heap[B]? = W5.heap[B]? from (hgrow6.block B (Nat.lt_of_lt_of_le hB5l (by have := bA.size; exact this)) (fun e => hnB e.symm)).trans (bA.block B hB5l))
            have q4 := hB5.cell (show 4 < 5 by omega)
            have qf := hB5.frozen 4
            have kf : ∀ k, k < W5.heap.size → k ≠ B → w3.heap.size ≤ k → (w6.setCell ⟨B, 4, none⟩ (.slice (some ⟨gg, 0, none⟩) (m.h.length + 1) cap5)).heap[k]? = W5.heap[k]? := fun k h1 h2 h3 => (Below.heap_setCell _ _ _ _ h2).trans ((hgrow6.block k (Nat.lt_of_lt_of_le h1 (by have := bA.size; exact this)) (fun e => by have := hvl k e.symm; omega)).trans (bA.block k h1))
            obtain ⟨P7, bP7⟩ := h5.pushEv (x := ⟨4, tx, 0, 0, 0, m.c + 1⟩) bA hgrow6 hown6 (by rcases hat6 with e | e; exact .inl e; exact .inr (by omega))
            have hz7 : W5.heap.size ≤ (w6.setCell ⟨B, 4, none⟩ (.slice (some ⟨gg, 0, none⟩) (m.h.length + 1) cap5)).heap.size := bP7.size
            have hOS7 := hOS5.keep (fun k h1 h2 => kf k h2 (by omega) (by omega)) hz7
            have hV7 := cell_same (kf V (cell_lt hV5) (by omega) (by omega)) hV5
            have hVl := cell_lt hV5
            refine wpAnyH_done (by kernel_rfl) ?_ _
            refine lastL (n := 15) rfl rfl ?_
            go_simp
            have b7 := b5.trans bP7
            clear hHeld2 q4 qf hB5 k5 hnB hlt6 hat6 hgrow6 hown6 hXA bA bD hbt hI hz0 hz1 hz2 c1 c4 h5 b5 bP7 hOS5 hV5 kf
            generalize w6.setCell ⟨B, 4, none⟩ (.slice (some ⟨gg, 0, none⟩) (m.h.length + 1) cap5) = W7 at *
            go_wp2_with fail
            refine (dropTx_any base B s0 s1 _ _ _ _ wv tx i _ P7 hxl HI.out HU.out).mono ?_
            rintro e w8 ⟨rfl, hb8, kf8, vt8, P8⟩
            have b8 := b7.trans hb8
            have hz8 := hb8.size
            have kg : ∀ k, k < W7.heap.size → w3.heap.size ≤ k → w8.heap[k]? = W7.heap[k]? := fun k h1 h2 => kf8 k h1 (by omega) (by simp [Value.ownBlock]; omega)
            have hOS8 := hOS7.keep (fun k h1 h2 => kg k h2 (by omega)) hz8
            have hV8 := cell_same (kg V (by omega) (by omega)) hV7
            clear P7 hb8 kf8 kg hOS7 hV7 b7
            have hln8 := len_erase m.x hil
            have hn8 : SmallM' ({ { { m with c := m.c + 1 } with h := m.h ++ [(⟨4, tx, 0, 0, 0, m.c + 1⟩ : Ed)] } with x := m.x.eraseIdx i } : Md) := ⟨hn.s, by show (m.x.eraseIdx i).length ≤ _; omega, fun j hj => by
              have hj' : j < m.x.length - 1 := by rw [← hln8]; exact hj
              show (tAt (m.x.eraseIdx i) j).w.length ≤ _
              rw [tAt_erase]
              exact hn.w _ (skip_lt hil hj'), by
              show (m.h ++ [_]).length ≤ _
              have := HE.out
              simp only [List.length_append, List.length_cons, List.length_nil]
              omega⟩
            have hM8 := P8.own.mat hn8
            obtain ⟨a2', c2', hv2⟩ := owns_sliceM P8.own.x
            subst hv2
            have HOld : ∀ W, Below w8.heap.size w8 W → Calls Tryz.prog 96 #[.agg #[.slice a1 m.s.length cap1, .int .i64 (m.c + 1), .int .i64 m.n, .slice a2' (m.x.eraseIdx i).length c2', .slice (some ⟨gg, 0, none⟩) (m.h.length + 1) cap5]] W fun e w' => e = .returned (.int .i64 (oldS (m.c + 1) (m.x.eraseIdx i) (m.x.eraseIdx i).length)) ∧ Below W.heap.size W w' := fun W hW => oldestStart_any _ _ _ _ W (hM8.stays hW)
            obtain ⟨q0, f0⟩ := P8.cell (j := 0) (by omega)
            obtain ⟨q1, _⟩ := P8.cell (j := 1) (by omega)
            obtain ⟨q2, _⟩ := P8.cell (j := 2) (by omega)
            obtain ⟨q3, _⟩ := P8.cell (j := 3) (by omega)
            obtain ⟨q4, _⟩ := P8.cell (j := 4) (by omega)
            simp only [bxf] at q0 q1 q2 q3 q4
            generalize hold : oldS (m.c + 1) (m.x.eraseIdx i) (m.x.eraseIdx i).length = old at *
            have HOL : Hid (oldS (m.c + 1) (m.x.eraseIdx i) (m.x.eraseIdx i).length = old) := hold
            clear hold hM8 hn8 hln8
            have TA : ∀ x, Below w8.heap.size w8 x → x.cell? ⟨V, 0, none⟩ = some (.slice sa sn sc) ∧ x.cell? ⟨B, 0, none⟩ = some (.slice a1 m.s.length cap1) ∧ x.cell? ⟨B, 1, none⟩ = some (.int .i64 (m.c + 1)) ∧ x.cell? ⟨B, 2, none⟩ = some (.int .i64 m.n) ∧ x.cell? ⟨B, 3, none⟩ = some (.slice a2' (m.x.eraseIdx i).length c2') ∧ x.cell? ⟨B, 4, none⟩ = some (.slice (some ⟨gg, 0, none⟩) (m.h.length + 1) cap5) := fun x hx => ⟨cell_stays hx hV8, cell_stays hx q0, cell_stays hx q1, cell_stays hx q2, cell_stays hx q3, cell_stays hx q4⟩
            have t0 : Below w8.heap.size w8 w8.drew := (Below.refl _ _).drew
            go_wp2_with fail
            refine region_last (fun x => x.cell? ⟨V, 0, none⟩ = some (.slice sa sn sc) ∧ x.cell? ⟨B, 0, none⟩ = some (.slice a1 m.s.length cap1) ∧ x.cell? ⟨B, 1, none⟩ = some (.int .i64 (m.c + 1)) ∧ x.cell? ⟨B, 2, none⟩ = some (.int .i64 m.n) ∧ x.cell? ⟨B, 3, none⟩ = some (.slice a2' (m.x.eraseIdx i).length c2') ∧ x.cell? ⟨B, 4, none⟩ = some (.slice (some ⟨gg, 0, none⟩) (m.h.length + 1) cap5)) (by kernel_rfl) (by kernel_rfl) (by kernel_rfl) (TA _ t0) (fun hHeld0 => ?_)
            simp only [List.dropLast, List.length_cons, List.length_nil, Nat.reduceAdd]
            refine takeL (i := 0) (v := ?_) rfl (by kernel_rfl) (by kernel_rfl) (by kernel_rfl) (fun _ _ _ h => h) rfl (by assumption) ?_ ?_
            rotate_left
            · (intro wS hSw; (try dsimp only at hSw); go_simp; try with_reducible rfl)
            (try simp only [Act.put, List.setIfInBounds_toArray, List.set_cons_zero, List.set_cons_succ])
            refine takeL (i := 1) (v := ?_) rfl (by kernel_rfl) (by kernel_rfl) (by kernel_rfl) (fun _ _ _ h => h) rfl (by assumption) ?_ ?_
            rotate_left
            · (intro wS hSw; (try dsimp only at hSw); go_simp; try with_reducible rfl)
            (try simp only [Act.put, List.setIfInBounds_toArray, List.set_cons_zero, List.set_cons_succ])
            refine takeL (i := 2) (v := ?_) rfl (by kernel_rfl) (by kernel_rfl) (by kernel_rfl) (fun _ _ _ h => h) rfl (by assumption) ?_ ?_
            rotate_left
            · (intro wS hSw; (try dsimp only at hSw); go_simp; try with_reducible rfl)
            (try simp only [Act.put, List.setIfInBounds_toArray, List.set_cons_zero, List.set_cons_succ])
            refine takeL (i := 3) (v := ?_) rfl (by kernel_rfl) (by kernel_rfl) (by kernel_rfl) (fun _ _ _ h => h) rfl (by assumption) ?_ ?_
            rotate_left
            · (intro wS hSw; (try dsimp only at hSw); go_simp; try with_reducible rfl)
            (try simp only [Act.put, List.setIfInBounds_toArray, List.set_cons_zero, List.set_cons_succ])
            refine takeL (i := 4) (v := ?_) rfl (by kernel_rfl) (by kernel_rfl) (by kernel_rfl) (fun _ _ _ h => h) rfl (by assumption) ?_ ?_
            rotate_left
            · (intro wS hSw; (try dsimp only at hSw); go_simp; try with_reducible rfl)
            (try simp only [Act.put, List.setIfInBounds_toArray, List.set_cons_zero, List.set_cons_succ])
            refine stepL (i := 5) rfl (by kernel_rfl) (fun K hK => ?_)
            rw [if_pos (by rfl)]
            go_simp
            refine (HOld _ t0).mono ?_
            rintro e w9 ⟨rfl, hb9⟩
            have t9 : Below w8.heap.size w8 w9 := t0.trans (hb9.mono t0.size)
            refine hK.out _ _ (TA _ t9) (fun hHeld1 => ?_)
            clear hK K hHeld0
            (try simp only [Act.put, List.setIfInBounds_toArray, List.set_cons_zero, List.set_cons_succ])
            refine stepL (i := 6) rfl (by kernel_rfl) (fun K hK => ?_)
            rw [if_pos (by rfl)]
            go_simp
            refine (implPrune_ownS (.slice sa sn sc) o1 old _ (hOS8.stays t9) hwo hsm).mono ?_
            rintro e w10 ⟨v', o2, rfl, hPA, hO10, hb10⟩
            have t10 := t9.trans (hb10.mono t9.size)
            obtain ⟨pa, pn, pc, rfl⟩ := hO10.form
            refine hK.out _ _ (TA _ t10) (fun hHeld2 => ?_)
            clear hK K hHeld1
            (try simp only [Act.put, List.setIfInBounds_toArray, List.set_cons_zero, List.set_cons_succ])
            refine takeL (i := 7) (v := ?_) rfl (by kernel_rfl) (by kernel_rfl) (by kernel_rfl) (fun _ _ _ h => h) rfl (by assumption) ?_ ?_
            rotate_left
            · (intro wS hSw; (try dsimp only at hSw); go_simp; try with_reducible rfl)
            (try simp only [Act.put, List.setIfInBounds_toArray, List.set_cons_zero, List.set_cons_succ])
            refine takeL (i := 8) (v := ?_) rfl (by kernel_rfl) (by kernel_rfl) (by kernel_rfl) (fun _ _ _ h => h) rfl (by assumption) ?_ ?_
            rotate_left
            · (intro wS hSw; (try dsimp only at hSw); go_simp; try with_reducible rfl)
            (try simp only [Act.put, List.setIfInBounds_toArray, List.set_cons_zero, List.set_cons_succ])
            have hB10 := P8.box.of_block (t10.block B P8.box.lt)
            have r0 := hB10.cell (show 0 < 5 by omega)
            have rf := hB10.frozen 0
            obtain ⟨P11, bP11⟩ := P8.setS t10 hO10 (by exact t9.size) (by exact hb10.size)
            refine wpAnyH_done (by kernel_rfl) ?_ _
            refine lastL (n := 9) rfl rfl ?_
            go_simp
            have b11 := b8.trans bP11
            have HP : Hid (PAns o1 old o2) := hPA
            clear hHeld2 r0 rf hB10 hPA hO10 hb10 t10 t9 t0 TA hb9 q0 q1 q2 q3 q4 f0 HOld P8 b8 bP11 hOS8 hV8
            go_wp2
            go_ret
            exact ⟨b11, cmM m tx i o2, 0, .inl ⟨HO.out, HE.out, i, o1, o2, HI.out, HL.out, HA.out, by rw [HOL.out]; exact HP.out, rfl, rfl⟩, .inl ⟨rfl, rfl, _, _, _, _, _, _, P11⟩⟩
    · have HE : Hid (¬ m.h.length ≤ 2998) := e3
      go_wp2_with fail
      refine (hasRoom_any a1 (some ⟨g, 0, none⟩) a3 _ cap1 _ cap2 _ cap3 m.c m.n _ hhl).mono ?_
      rw [decide_eq_false e3]
      rintro e w2 ⟨rfl, hb2⟩
      have b2 := b1.trans (hb2.mono (by have := h1.box.lt; omega))
      clear e3
      go_wp2
      go_ret
      exact ⟨b2, md0, 2, .inr (.inr (.inl ⟨HO.out, ⟨i, HI.out⟩, HE.out, rfl, rfl⟩)), .inr ⟨rfl, rfl⟩⟩
  · have HN : Hid (¬ mgrOk m ∨ NoTx m tx) := hno
    clear hno
    go_wp2
    go_ret
    exact ⟨b1, md0, 1, .inr (.inl ⟨HN.out, rfl, rfl⟩), .inr ⟨rfl, rfl⟩⟩
theorem commit_in (base B s0 s1 : Nat) (vs vt ve : Value) (m : Md) (wv : Nat → Value) (tx : Int) (w : World) (h : PtrM base w B s0 s1 vs vt ve m wv) (hn : SmallM' m) (hwf : WfM m) :
    Calls Tryz.prog 52 #[.pointer (some ⟨B, 0, none⟩), .int .i64 tx] w fun e w' => Below base w w' ∧ ∃ x code, RC m x tx code ∧ InM base B w' e x code := commit_p base B s0 s1 vs vt ve m wv tx w h hn hwf
end Go.Proofs.YtmecbppblbmchaaGreatDoor
