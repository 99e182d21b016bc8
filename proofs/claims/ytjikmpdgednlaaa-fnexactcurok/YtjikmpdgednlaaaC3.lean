/- The program's stackOk: the frames of a run. -/
import Derived.Test.YtjikmpdgednlaaaC2
namespace Go.Proofs.Ytjikmpdgednlaaa
open Go.ChangeShapes Go.WideShapes Go.ChangeAt Go.RowKit
set_option linter.unusedVariables false
set_option maxRecDepth 100000
attribute [local go_sem ↓] Go.wp_at_zero Go.wp_at_succ

theorem frameOk_yes (a : Option Addr) (c : Nat) (l : List Nd) (f1 f2 : Int) (w : World) {lo hi : Nat} (h : NodesAt lo hi w (.slice a l.length c) l) (hf : frOk l (f1, f2)) :
    Calls Try.prog 46 #[.slice a l.length c, .agg #[.int .i64 f1, .int .i64 f2]] w fun e w' => e = .returned (.bool true) ∧ Below w.heap.size w w' := by
  refine (frameOk_any a c l f1 f2 w h).mono ?_
  rintro e w' ⟨⟨q, rfl, hq⟩, hb⟩
  obtain rfl := hq.2 hf
  exact ⟨rfl, hb⟩
theorem frameOk_no (a : Option Addr) (c : Nat) (l : List Nd) (f1 f2 : Int) (w : World) {lo hi : Nat} (h : NodesAt lo hi w (.slice a l.length c) l) (hf : ¬ frOk l (f1, f2)) :
    Calls Try.prog 46 #[.slice a l.length c, .agg #[.int .i64 f1, .int .i64 f2]] w fun e w' => e = .returned (.bool false) ∧ Below w.heap.size w w' := by
  refine (frameOk_any a c l f1 f2 w h).mono ?_
  rintro e w' ⟨⟨q, rfl, hq⟩, hb⟩
  obtain rfl := says_false hq hf
  exact ⟨rfl, hb⟩
theorem isWithin_yes (a : Option Addr) (c : Nat) (l : List Nd) (b : Int) (f1 f2 : Int) (w : World) {lo hi : Nat} (h : NodesAt lo hi w (.slice a l.length c) l) (hn : NodesOk l) (hf : frOk l (f1, f2)) (hb : isFr l b) (hu : underF l (f1, f2) b) :
    Calls Try.prog 47 #[.slice a l.length c, .int .i64 b, .agg #[.int .i64 f1, .int .i64 f2]] w fun e w' => e = .returned (.bool true) ∧ Below w.heap.size w w' := by
  refine (isWithin_any a c l b f1 f2 w h hn hf hb).mono ?_
  rintro e w' ⟨⟨q, rfl, hq⟩, hb⟩
  obtain rfl := hq.2 hu
  exact ⟨rfl, hb⟩
theorem isWithin_no (a : Option Addr) (c : Nat) (l : List Nd) (b : Int) (f1 f2 : Int) (w : World) {lo hi : Nat} (h : NodesAt lo hi w (.slice a l.length c) l) (hn : NodesOk l) (hf : frOk l (f1, f2)) (hb : isFr l b) (hu : ¬ underF l (f1, f2) b) :
    Calls Try.prog 47 #[.slice a l.length c, .int .i64 b, .agg #[.int .i64 f1, .int .i64 f2]] w fun e w' => e = .returned (.bool false) ∧ Below w.heap.size w w' := by
  refine (isWithin_any a c l b f1 f2 w h hn hf hb).mono ?_
  rintro e w' ⟨⟨q, rfl, hq⟩, hb⟩
  obtain rfl := says_false hq hu
  exact ⟨rfl, hb⟩

set_option maxHeartbeats 4000000 in
theorem stackOk_any (v u : Value) (l : List Nd) (p : List Pr) (pk : Nat) (va fv : Value) (fs : List Vr) (w : World) {lo hi lo' hi' : Nat} (h : SetAt lo hi w v u l p) (hF : VersAt lo' hi' w fv fs) (hn : NodesOk l) (hp : pk < p.length) :
    Calls Try.prog 26 #[.agg #[v, u], .agg #[.int .i64 (pk : Int), va, fv]] w fun e w' => Says e (stackP l (prAt p pk).body fs) ∧ Below w.heap.size w w' := by
  obtain ⟨P, hP⟩ : ∃ P : Prop, stackP l (prAt p pk).body fs = P := ⟨_, rfl⟩
  rw [hP]
  have HP : Hid (P ↔ stackP l (prAt p pk).body fs) := by show _ ↔ _; rw [hP]
  clear hP
  obtain ⟨a, c, b, d, rfl, rfl⟩ := h.forms
  obtain ⟨fa, fc, rfl, hfm, hfc⟩ := id hF
  unfold maxLen at hfm
  have b0 : Below w.heap.size w ((w.alloc (Obj.cells #[Value.slice a l.length c, Value.slice b p.length d] 36)).alloc (Obj.cells #[.int .i64 (pk : Int), va, Value.slice fa fs.length fc] 41)) := ((Below.refl _ _).alloc (Nat.le_refl _) _).alloc (by simp) _
  go_enter Try.func26, Try.ntmps26
  by_cases h200 : (200 : Int) < (fs.length : Int)
  · go_wp2
    go_ret
    exact ⟨says_no fun hh => by have := (HP.out.1 hh).1; omega, b0⟩
  go_wp2
  generalize hW : (w.alloc (Obj.cells #[Value.slice a l.length c, Value.slice b p.length d] 36)).alloc (Obj.cells #[.int .i64 (pk : Int), va, Value.slice fa fs.length fc] 41) = W at *
  have x0 : W.cell? ⟨w.heap.size, 0, none⟩ = some (.slice a l.length c) := by rw [← hW]; simp [go_sem]
  have x1 : W.cell? ⟨w.heap.size, 1, none⟩ = some (.slice b p.length d) := by rw [← hW]; simp [go_sem]
  have x2 : W.cell? ⟨w.heap.size + 1, 0, none⟩ = some (.int .i64 (pk : Int)) := by rw [← hW]; simp [go_sem]
  have x4 : W.cell? ⟨w.heap.size + 1, 2, none⟩ = some (.slice fa fs.length fc) := by rw [← hW]; simp [go_sem]
  clear hW
  obtain ⟨pb, poff, hpe, px⟩ : ∃ pb poff, b = some ⟨pb, poff, none⟩ ∧ w.cell? ⟨pb, poff + pk * 3 + 1 + 1, none⟩ = some (.int .i64 (prAt p pk).body) := by
    obtain ⟨a1, c1, e1, _, hcc⟩ := h.2
    cases e1
    obtain ⟨pb, poff, e, _, _, hcl⟩ := hcc (by omega)
    exact ⟨pb, poff, e, (hcl pk hp).2.2⟩
  subst hpe
  have hNo := h.1
  have pk0 : (0 : Int) ≤ (pk : Int) := by omega
  have pk1 : (pk : Int) < (p.length : Int) := by omega
  clear h hF
  go_loopw [14] (fun i wr => ∃ k : Nat, k ≤ fs.length ∧ i = .int .i64 k ∧ Below W.heap.size W wr ∧ Hid (∀ j, j < k → stAt l (prAt p pk).body fs j)) (fun i _ => fs.length - (intOf i).toNat)
  case atStart => exact ⟨0, Nat.zero_le _, rfl, Below.refl _ _, fun j hj => absurd hj (Nat.not_lt_zero _)⟩
  case round =>
    rename World => wo
    obtain ⟨k, hk, rfl, hb, hs⟩ := hrel
    have y0 := cell_stays hb x0
    have y1 := cell_stays hb x1
    have y2 := cell_stays hb x2
    have y4 := cell_stays hb x4
    have hB := b0.trans (hb.mono b0.size)
    by_cases hlt : k < fs.length
    · obtain ⟨fb, foff, rfl, _, _, hcc⟩ := hfc (by omega)
      obtain ⟨d0, d1⟩ := hcc k hlt
      replace d0 := cell_stays hB d0
      replace d1 := cell_stays hB d1
      have j0 : (0 : Int) ≤ (k : Int) := by omega
      have j1 : (k : Int) < (fs.length : Int) := by omega
      have hR : Below wo.heap.size wo (wo.alloc (Obj.cells #[.int .i64 (vAt fs k).1, .int .i64 (vAt fs k).2] 77)) := (Below.refl _ _).alloc (Nat.le_refl _) _
      have hBR := hB.trans (hR.mono hB.size)
      have hbR := hb.trans (hR.mono hb.size)
      have g0 := cell_stays hR y0
      have g1 := cell_stays hR y1
      have g2 := cell_stays hR y2
      have g4 := cell_stays hR y4
      have g5 : (wo.alloc (Obj.cells #[.int .i64 (vAt fs k).1, .int .i64 (vAt fs k).2] 77)).cell? ⟨wo.heap.size, 0, none⟩ = some (.int .i64 (vAt fs k).1) := by simp [go_sem]
      have g6 : (wo.alloc (Obj.cells #[.int .i64 (vAt fs k).1, .int .i64 (vAt fs k).2] 77)).cell? ⟨wo.heap.size, 1, none⟩ = some (.int .i64 (vAt fs k).2) := by simp [go_sem]
      by_cases hfr : frOk l (vAt fs k)
      · go_wp2_with fail
        refine (frameOk_yes _ _ l _ _ _ (hNo.stays hBR) hfr).mono ?_
        rintro e w4 ⟨rfl, hb4⟩
        have z0 := cell_regrown (cell_stays hb4 g0)
        have z1 := cell_regrown (cell_stays hb4 g1)
        have z2 := cell_regrown (cell_stays hb4 g2)
        have z4 := cell_regrown (cell_stays hb4 g4)
        have z5 := cell_regrown (cell_stays hb4 g5)
        have hNw := (hNo.stays hBR).stays hb4
        have z7 := cell_regrown (cell_stays (hBR.trans (hb4.mono hBR.size)) px)
        clear g0 g1 g2 g4 g5 g6 y0 y1 y2 y4
        by_cases hk0 : k = 0
        · subst hk0
          have dk0 : ((0 : Nat) : Int) = 0 := rfl
          clear hcc
          by_cases hbody : (vAt fs 0).1 = (prAt p pk).body
          · have hyes : Hid (stAt l (prAt p pk).body fs 0) := ⟨hfr, fun _ => hbody, fun h => absurd h (by omega)⟩
            have hdc : ((vAt fs 0).1 != (prAt p pk).body) = false := by simpa using hbody
            go_wp2_with fail
            refine wp_region_quiet_below (by kernel_rfl) (by kernel_rfl) ?_
            repeat (go_big_quiet_step (fail))
            refine wpQuiet_nil ?_
            intro w5 hw5
            obtain ⟨⟨dq, osq⟩, hw6⟩ := hw5
            have hb5 : Below _ _ w5 := hw6 ▸ below_regrown _ dq osq
            clear hw6
            have hs2 : Hid (∀ j, j < 0 + 1 → stAt l (prAt p pk).body fs j) := upto_succ hs.out hyes.out
            clear hs hyes
            go_wp2
            go_roundw
            case rel => exact ⟨0 + 1, by omega, by go_num, (hbR.trans (hb4.mono hbR.size)).trans (hb5.mono (by have := hbR.size; have := hb4.size; omega)), hs2⟩
            case measure => simp [intOf]; omega

          · have hnot : Hid (¬ stAt l (prAt p pk).body fs 0) := fun hh => hbody (hh.2.1 rfl)
            have hdc : ((vAt fs 0).1 != (prAt p pk).body) = true := by simpa using hbody
            go_wp2_with fail
            refine wp_region_quiet_below (by kernel_rfl) (by kernel_rfl) ?_
            repeat (go_big_quiet_step (fail))
            refine wpQuiet_nil ?_
            intro w5 hw5
            obtain ⟨⟨dq, osq⟩, hw6⟩ := hw5
            have hb5 : Below _ _ w5 := hw6 ▸ below_regrown _ dq osq
            clear hw6
            go_wp2
            go_ret
            exact ⟨says_no fun hh => hnot.out ((HP.out.1 hh).2 0 hlt), (hBR.trans (hb4.mono hBR.size)).trans (hb5.mono (by have := hBR.size; have := hb4.size; omega))⟩

        · have hprev : frOk l ((vAt fs (k - 1)).1, (vAt fs (k - 1)).2) := (hs.out (k - 1) (by omega)).1
          have hfrk : isFr l (vAt fs k).1 := frOk_isFr hfr
          obtain ⟨e0, e1⟩ := hcc (k - 1) (by omega)
          have z8 := cell_regrown (cell_stays (hBR.trans (hb4.mono hBR.size)) e0)
          have z9 := cell_regrown (cell_stays (hBR.trans (hb4.mono hBR.size)) e1)
          have hk1 : (0 : Int) < (k : Int) := by omega
          have hkn : 0 < k := by omega
          have hk2 : ((k : Int) == 0) = false := by simp; omega
          clear hcc e0 e1
          by_cases hu : underF l ((vAt fs (k - 1)).1, (vAt fs (k - 1)).2) (vAt fs k).1
          · have hyes : Hid (stAt l (prAt p pk).body fs k) := ⟨hfr, fun h => absurd h hk0, fun _ => hu⟩
            go_wp2_with fail
            refine wp_region_quiet_below (by kernel_rfl) (by kernel_rfl) ?_
            repeat (go_big_quiet_step ((go_at_call 47; exact Calls.regrown_of (isWithin_yes _ _ l _ _ _ _ (hNw.stays (below_regrown _ _ _)) hn hprev hfrk hu))))
            refine wpQuiet_nil ?_
            intro w5 hw5
            obtain ⟨⟨dq, osq⟩, hw6⟩ := hw5
            have hb5 : Below _ _ w5 := hw6 ▸ below_regrown _ dq osq
            clear hw6
            have hs2 : Hid (∀ j, j < k + 1 → stAt l (prAt p pk).body fs j) := upto_succ hs.out hyes.out
            clear hs hyes
            go_wp2
            go_roundw
            case rel => exact ⟨k + 1, by omega, by go_num, (hbR.trans (hb4.mono hbR.size)).trans (hb5.mono (by have := hbR.size; have := hb4.size; omega)), hs2⟩
            case measure => simp [intOf]; omega

          · have hnot : Hid (¬ stAt l (prAt p pk).body fs k) := fun hh => hu (hh.2.2 (by omega))
            go_wp2_with fail
            refine wp_region_quiet_below (by kernel_rfl) (by kernel_rfl) ?_
            repeat (go_big_quiet_step ((go_at_call 47; exact Calls.regrown_of (isWithin_no _ _ l _ _ _ _ (hNw.stays (below_regrown _ _ _)) hn hprev hfrk hu))))
            refine wpQuiet_nil ?_
            intro w5 hw5
            obtain ⟨⟨dq, osq⟩, hw6⟩ := hw5
            have hb5 : Below _ _ w5 := hw6 ▸ below_regrown _ dq osq
            clear hw6
            go_wp2
            go_ret
            exact ⟨says_no fun hh => hnot.out ((HP.out.1 hh).2 k hlt), (hBR.trans (hb4.mono hBR.size)).trans (hb5.mono (by have := hBR.size; have := hb4.size; omega))⟩

      · have hnot : Hid (¬ stAt l (prAt p pk).body fs k) := fun hh => hfr hh.1
        go_wp2_with fail
        refine (frameOk_no _ _ l _ _ _ (hNo.stays hBR) hfr).mono ?_
        rintro e w4 ⟨rfl, hb4⟩
        go_wp2
        go_ret
        exact ⟨says_no fun hh => hnot.out ((HP.out.1 hh).2 k hlt), hBR.trans (hb4.mono hBR.size)⟩
    · have hs2 := hs.out
      clear hs
      change Hid _ at hs2
      go_wp2
      go_ret
      exact ⟨says_yes (HP.out.2 ⟨by omega, fun j hj => hs2.out j (by omega)⟩), hB⟩

end Go.Proofs.Ytjikmpdgednlaaa
