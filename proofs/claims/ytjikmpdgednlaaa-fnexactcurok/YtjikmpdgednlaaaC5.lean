/- The specification's l7frames: the frames of a run. -/
import Derived.Test.YtjikmpdgednlaaaC4
namespace Go.Proofs.Ytjikmpdgednlaaa
open Go.ChangeShapes Go.WideShapes Go.ChangeAt Go.RowKit
set_option linter.unusedVariables false
set_option maxRecDepth 100000
attribute [local go_sem ↓] Go.wp_at_zero Go.wp_at_succ

theorem l7under_yes (v u : Value) (l : List Nd) (p : List Pr) (b b2 : Int) (f1 f2 : Int) (w : World) {lo hi : Nat} (h : SetAt lo hi w v u l p) (hn : NodesOk l) (hf : frOk l (f1, f2)) (hb : isFr l b) (hu : underF l (f1, f2) b) :
    Calls Try.prog 38 #[.agg #[v, u], .agg #[.int .i64 f1, .int .i64 f2], .agg #[.int .i64 b, .int .i64 b2]] w fun e w' => e = .returned (.bool true) ∧ Below w.heap.size w w' := by
  refine (l7under_any v u l p b b2 f1 f2 w h hn hf hb).mono ?_
  rintro e w' ⟨⟨q, rfl, hq⟩, hb⟩
  obtain rfl := hq.2 hu
  exact ⟨rfl, hb⟩
theorem l7under_no (v u : Value) (l : List Nd) (p : List Pr) (b b2 : Int) (f1 f2 : Int) (w : World) {lo hi : Nat} (h : SetAt lo hi w v u l p) (hn : NodesOk l) (hf : frOk l (f1, f2)) (hb : isFr l b) (hu : ¬ underF l (f1, f2) b) :
    Calls Try.prog 38 #[.agg #[v, u], .agg #[.int .i64 f1, .int .i64 f2], .agg #[.int .i64 b, .int .i64 b2]] w fun e w' => e = .returned (.bool false) ∧ Below w.heap.size w w' := by
  refine (l7under_any v u l p b b2 f1 f2 w h hn hf hb).mono ?_
  rintro e w' ⟨⟨q, rfl, hq⟩, hb⟩
  obtain rfl := says_false hq hu
  exact ⟨rfl, hb⟩

set_option maxHeartbeats 4000000 in
theorem l7frames_any (v u : Value) (l : List Nd) (p : List Pr) (pk : Nat) (va fv : Value) (fs : List Vr) (w : World) {lo hi lo' hi' : Nat} (h : SetAt lo hi w v u l p) (hF : VersAt lo' hi' w fv fs) (hn : NodesOk l) (hp : pk < p.length) :
    Calls Try.prog 18 #[.agg #[v, u], .agg #[.int .i64 (pk : Int), va, fv]] w fun e w' => Says e (stackP l (prAt p pk).body fs) ∧ Below w.heap.size w w' := by
  obtain ⟨P, hP⟩ : ∃ P : Prop, stackP l (prAt p pk).body fs = P := ⟨_, rfl⟩
  rw [hP]
  have HP : Hid (P ↔ stackP l (prAt p pk).body fs) := by show _ ↔ _; rw [hP]
  clear hP
  obtain ⟨a, c, b, d, rfl, rfl⟩ := h.forms
  obtain ⟨fa, fc, rfl, hfm, hfc⟩ := id hF
  unfold maxLen at hfm
  have b0 : Below w.heap.size w ((w.alloc (Obj.cells #[Value.slice a l.length c, Value.slice b p.length d] 36)).alloc (Obj.cells #[.int .i64 (pk : Int), va, Value.slice fa fs.length fc] 41)) := ((Below.refl _ _).alloc (Nat.le_refl _) _).alloc (by simp) _
  go_enter Try.func18, Try.ntmps18
  by_cases h200 : (200 : Int) < (fs.length : Int)
  · go_wp2
    go_ret
    exact ⟨says_no fun hh => by have := (HP.out.1 hh).1; omega, b0⟩
  go_wp2
  generalize hW : (w.alloc (Obj.cells #[Value.slice a l.length c, Value.slice b p.length d] 36)).alloc (Obj.cells #[.int .i64 (pk : Int), va, Value.slice fa fs.length fc] 41) = W at *
  have x0 : W.cell? ⟨w.heap.size, 0, none⟩ = some (.slice a l.length c) := by rw [← hW]; simp [go_sem]
  have x1 : W.cell? ⟨w.heap.size, 1, none⟩ = some (.slice b p.length d) := by rw [← hW]; simp [go_sem]
  have x2 : W.cell? ⟨w.heap.size + 1, 0, none⟩ = some (.int .i64 (pk : Int)) := by rw [← hW]; simp [go_sem]
  have x4 : W.cell? ⟨w.heap.size + 1, 2, none⟩ = some (.slice fa fs.length fc) := by rw [← hW]; simp [go_sem]
  clear hW
  obtain ⟨pb, poff, hpe, px⟩ : ∃ pb poff, b = some ⟨pb, poff, none⟩ ∧ w.cell? ⟨pb, poff + pk * 3 + 1 + 1, none⟩ = some (.int .i64 (prAt p pk).body) := by
    obtain ⟨a1, c1, e1, _, hcc⟩ := h.2
    cases e1
    obtain ⟨pb, poff, e, _, _, hcl⟩ := hcc (by omega)
    exact ⟨pb, poff, e, (hcl pk hp).2.2⟩
  subst hpe
  have pk0 : (0 : Int) ≤ (pk : Int) := by omega
  have pk1 : (pk : Int) < (p.length : Int) := by omega
  clear hF
  go_loopw [5] (fun i wr => ∃ k : Nat, k ≤ fs.length ∧ i = .int .i64 k ∧ Below W.heap.size W wr ∧ Hid (∀ j, j < k → stAt l (prAt p pk).body fs j)) (fun i _ => fs.length - (intOf i).toNat)
  case atStart => exact ⟨0, Nat.zero_le _, rfl, Below.refl _ _, fun j hj => absurd hj (Nat.not_lt_zero _)⟩
  case round =>
    rename World => wo
    obtain ⟨k, hk, rfl, hb, hs⟩ := hrel
    have y0 := cell_stays hb x0
    have y1 := cell_stays hb x1
    have y2 := cell_stays hb x2
    have y4 := cell_stays hb x4
    have hB := b0.trans (hb.mono b0.size)
    by_cases hlt : k < fs.length
    · obtain ⟨fb, foff, rfl, _, _, hcc⟩ := hfc (by omega)
      obtain ⟨d0, d1⟩ := hcc k hlt
      replace d0 := cell_stays hB d0
      replace d1 := cell_stays hB d1
      have j0 : (0 : Int) ≤ (k : Int) := by omega
      have j1 : (k : Int) < (fs.length : Int) := by omega
      generalize hff : vAt fs k = f at *
      obtain ⟨f1, f2⟩ := f
      simp only at d0 d1
      have hR : Below wo.heap.size wo (wo.alloc (Obj.cells #[.int .i64 f1, .int .i64 f2] 77)) := (Below.refl _ _).alloc (Nat.le_refl _) _
      have g0 := cell_stays hR y0
      by_cases h1 : f1 < 0
      · have hnot : Hid (¬ stAt l (prAt p pk).body fs k) := fun hh => by have := hh.1.1; rw [hff] at this; simp at this; omega
        go_wp2
        go_ret
        exact ⟨says_no fun hh => hnot.out ((HP.out.1 hh).2 k hlt), by first | exact hB.trans (hR.mono hB.size) | exact hBR⟩

      by_cases h2 : (l.length : Int) ≤ f1
      · have hnot : Hid (¬ stAt l (prAt p pk).body fs k) := fun hh => by have := hh.1.2.1; rw [hff] at this; simp at this; omega
        go_wp2
        go_ret
        exact ⟨says_no fun hh => hnot.out ((HP.out.1 hh).2 k hlt), by first | exact hB.trans (hR.mono hB.size) | exact hBR⟩

      by_cases h3 : f2 < 0
      · have hnot : Hid (¬ stAt l (prAt p pk).body fs k) := fun hh => by have := hh.1.2.2.1; rw [hff] at this; simp at this; omega
        go_wp2
        go_ret
        exact ⟨says_no fun hh => hnot.out ((HP.out.1 hh).2 k hlt), by first | exact hB.trans (hR.mono hB.size) | exact hBR⟩

      obtain ⟨x, rfl⟩ : ∃ x : Nat, f1 = (x : Int) := ⟨f1.toNat, by omega⟩
      have hxl : x < l.length := by omega
      obtain ⟨a1, c1, e1, hm1, hcn⟩ := id h.1
      cases e1
      obtain ⟨nb, off, rfl, hlo, hhi, hcl⟩ := hcn (by omega)
      obtain ⟨n0, n1, n2, ka, kc, n3, Ki⟩ := hcl x hxl
      have hx0 : (0 : Int) ≤ (x : Int) := by omega
      have hx1 : (x : Int) < (l.length : Int) := by omega
      have hfrI : frOk l ((x : Int), f2) ↔ (((ndAt l x).k = 27 ∧ f2 ≤ ((ndAt l x).kids.length : Int)) ∨ ((ndAt l x).k = 24 ∧ f2 ≤ (ndAt l x).n)) := by
        simp only [frOk, frIn, ndF, Int.toNat_natCast]
        constructor
        · exact fun hh => hh.2.2.2
        · exact fun hh => ⟨by omega, by omega, by omega, hh⟩
      clear hcn hcl Ki
      generalize ndAt l x = z at *
      obtain ⟨zk, zs, zn, zkids⟩ := z
      simp only at n0 n1 n2 n3 hfrI
      have hBo := fun o => hB.alloc (by have := hB.size; omega : w.heap.size ≤ wo.heap.size) o
      have bR2 : Below wo.heap.size wo ((wo.alloc (Obj.cells #[.int .i64 (x : Int), .int .i64 f2] 77)).alloc (Obj.cells #[.int .i64 zk, .string zs, .int .i64 zn, .slice ka zkids.length kc] 72)) := hR.alloc (by simp) _
      have hBR := hB.trans (bR2.mono hB.size)
      have hbR := hb.trans (bR2.mono hb.size)
      have bR1 := hB.trans (hR.mono hB.size)
      have q0 := cell_stays bR1 n0
      have q1 := cell_stays bR1 n1
      have q2 := cell_stays bR1 n2
      have q3 := cell_stays bR1 n3
      have hSw := h.stays hBR
      have z0 := cell_regrown (cell_stays bR2 y0)
      have z1 := cell_regrown (cell_stays bR2 y1)
      have z2 := cell_regrown (cell_stays bR2 y2)
      have z4 := cell_regrown (cell_stays bR2 y4)
      have z7 := cell_regrown (cell_stays hBR px)
      have g5 : ((wo.alloc (Obj.cells #[.int .i64 (x : Int), .int .i64 f2] 77)).alloc (Obj.cells #[.int .i64 zk, .string zs, .int .i64 zn, .slice ka zkids.length kc] 72)).cell? ⟨wo.heap.size, 0, none⟩ = some (.int .i64 (x : Int)) := by simp [go_sem]
      have g6 : ((wo.alloc (Obj.cells #[.int .i64 (x : Int), .int .i64 f2] 77)).alloc (Obj.cells #[.int .i64 zk, .string zs, .int .i64 zn, .slice ka zkids.length kc] 72)).cell? ⟨wo.heap.size, 1, none⟩ = some (.int .i64 f2) := by simp [go_sem]
      have z5 := cell_regrown g5
      have z6 := cell_regrown g6
      clear hBo n0 n1 n2 n3
      by_cases hfr : frOk l ((x : Int), f2)
      · have hcase := hfrI.1 hfr
        clear hfrI
        by_cases hk0 : k = 0
        · subst hk0
          have dk0 : ((0 : Nat) : Int) = 0 := rfl
          simp at d0 d1
          clear hcc
          by_cases hbody : (x : Int) = (prAt p pk).body
          · have hyes : Hid (stAt l (prAt p pk).body fs 0) := by show stAt _ _ _ _; rw [stAt, hff]; exact ⟨hfr, fun _ => hbody, fun h => absurd h (by omega)⟩
            have hdc : ((x : Int) != (prAt p pk).body) = false := by simpa using hbody
            change Hid _ at hbody
            rcases hcase with ⟨hz1, hz2⟩ | ⟨hz1, hz2⟩
            all_goals (
              subst hz1
              go_wp2_with fail
              refine wp_region_quiet_below (by kernel_rfl) (by kernel_rfl) ?_
              repeat (go_big_quiet_step (fail))
              refine wpQuiet_nil ?_
              intro w5 hw5
              obtain ⟨⟨dq, osq⟩, hw6⟩ := hw5
              have hb5 : Below _ _ w5 := hw6 ▸ below_regrown _ dq osq
              clear hw6
              have hs2 : Hid (∀ j, j < 0 + 1 → stAt l (prAt p pk).body fs j) := upto_succ hs.out hyes.out
              clear hs hyes
              go_wp2
              go_roundw
              case rel => exact ⟨0 + 1, by omega, by go_num, hbR.trans (hb5.mono hbR.size), hs2⟩
              case measure => simp [intOf]; omega
              )
          · have hnot : Hid (¬ stAt l (prAt p pk).body fs 0) := fun hh => by have := hh.2.1 rfl; rw [hff] at this; exact hbody this
            have hdc : ((x : Int) != (prAt p pk).body) = true := by simpa using hbody
            rcases hcase with ⟨hz1, hz2⟩ | ⟨hz1, hz2⟩
            all_goals (
              subst hz1
              go_wp2_with fail
              refine wp_region_quiet_below (by kernel_rfl) (by kernel_rfl) ?_
              repeat (go_big_quiet_step (fail))
              refine wpQuiet_nil ?_
              intro w5 hw5
              obtain ⟨⟨dq, osq⟩, hw6⟩ := hw5
              have hb5 : Below _ _ w5 := hw6 ▸ below_regrown _ dq osq
              clear hw6
              go_wp2
              go_ret
              exact ⟨says_no fun hh => hnot.out ((HP.out.1 hh).2 0 hlt), hBR.trans (hb5.mono hBR.size)⟩
              )
        · have hprev : frOk l ((vAt fs (k - 1)).1, (vAt fs (k - 1)).2) := (hs.out (k - 1) (by omega)).1
          have hfrk : isFr l (x : Int) := frOk_isFr hfr
          obtain ⟨e0, e1⟩ := hcc (k - 1) (by omega)
          have z8 := cell_regrown (cell_stays hBR e0)
          have z9 := cell_regrown (cell_stays hBR e1)
          have hk1 : (0 : Int) < (k : Int) := by omega
          have hkn : 0 < k := by omega
          have hk2 : ((k : Int) == 0) = false := by simp; omega
          clear hcc e0 e1
          by_cases hu : underF l ((vAt fs (k - 1)).1, (vAt fs (k - 1)).2) (x : Int)
          · have hyes : Hid (stAt l (prAt p pk).body fs k) := by show stAt _ _ _ _; rw [stAt, hff]; exact ⟨hfr, fun h => absurd h hk0, fun _ => hu⟩
            rcases hcase with ⟨hz1, hz2⟩ | ⟨hz1, hz2⟩
            all_goals (
              subst hz1
              go_wp2_with fail
              refine wp_region_quiet_below (by kernel_rfl) (by kernel_rfl) ?_
              repeat (go_big_quiet_step ((go_at_call 38; exact Calls.regrown_of (l7under_yes _ _ l p _ _ _ _ _ (hSw.stays (below_regrown _ _ _)) hn hprev hfrk hu))))
              refine wpQuiet_nil ?_
              intro w5 hw5
              obtain ⟨⟨dq, osq⟩, hw6⟩ := hw5
              have hb5 : Below _ _ w5 := hw6 ▸ below_regrown _ dq osq
              clear hw6
              have hs2 : Hid (∀ j, j < k + 1 → stAt l (prAt p pk).body fs j) := upto_succ hs.out hyes.out
              clear hs hyes
              go_wp2
              go_roundw
              case rel => exact ⟨k + 1, by omega, by go_num, hbR.trans (hb5.mono hbR.size), hs2⟩
              case measure => simp [intOf]; omega
              )
          · have hnot : Hid (¬ stAt l (prAt p pk).body fs k) := fun hh => by have := hh.2.2 (by omega); rw [hff] at this; exact hu this
            rcases hcase with ⟨hz1, hz2⟩ | ⟨hz1, hz2⟩
            all_goals (
              subst hz1
              go_wp2_with fail
              refine wp_region_quiet_below (by kernel_rfl) (by kernel_rfl) ?_
              repeat (go_big_quiet_step ((go_at_call 38; exact Calls.regrown_of (l7under_no _ _ l p _ _ _ _ _ (hSw.stays (below_regrown _ _ _)) hn hprev hfrk hu))))
              refine wpQuiet_nil ?_
              intro w5 hw5
              obtain ⟨⟨dq, osq⟩, hw6⟩ := hw5
              have hb5 : Below _ _ w5 := hw6 ▸ below_regrown _ dq osq
              clear hw6
              go_wp2
              go_ret
              exact ⟨says_no fun hh => hnot.out ((HP.out.1 hh).2 k hlt), hBR.trans (hb5.mono hBR.size)⟩
              )
      · have hnot : Hid (¬ stAt l (prAt p pk).body fs k) := fun hh => by have := hh.1; rw [hff] at this; exact hfr this
        have hc : ¬ ((zk = 27 ∧ f2 ≤ (zkids.length : Int)) ∨ (zk = 24 ∧ f2 ≤ zn)) := fun h => hfr (hfrI.2 h)
        clear hfrI
        by_cases hz1 : zk = 27
        · have hz2 : ¬ f2 ≤ (zkids.length : Int) := fun h => hc (.inl ⟨hz1, h⟩)
          clear hc
          subst hz1
          go_wp2
          go_ret
          exact ⟨says_no fun hh => hnot.out ((HP.out.1 hh).2 k hlt), by first | exact hB.trans (hR.mono hB.size) | exact hBR⟩

        · have hzd : (zk == 27) = false := by simpa using hz1
          by_cases hz3 : zk = 24
          · have hz2 : ¬ f2 ≤ zn := fun h => hc (.inr ⟨hz3, h⟩)
            clear hc
            subst hz3
            go_wp2
            go_ret
            exact ⟨says_no fun hh => hnot.out ((HP.out.1 hh).2 k hlt), by first | exact hB.trans (hR.mono hB.size) | exact hBR⟩

          · have hzd3 : (zk == 24) = false := by simpa using hz3
            clear hc
            go_wp2
            go_ret
            exact ⟨says_no fun hh => hnot.out ((HP.out.1 hh).2 k hlt), by first | exact hB.trans (hR.mono hB.size) | exact hBR⟩

    · have hs2 := hs.out
      clear hs
      change Hid _ at hs2
      go_wp2
      go_ret
      exact ⟨says_yes (HP.out.2 ⟨by omega, fun j hj => hs2.out j (by omega)⟩), hB⟩

end Go.Proofs.Ytjikmpdgednlaaa
