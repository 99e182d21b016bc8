/- The specification's TargetOk. -/
import Derived.Test.YtjikmpdgednlaaaXTgt
namespace Go.Proofs.Ytjikmpdgednlaaa
open Go.ChangeShapes Go.WideShapes Go.ChangeAt Go.RowKit
set_option linter.unusedVariables false
set_option maxRecDepth 100000
attribute [local go_sem ↓] Go.wp_at_zero Go.wp_at_succ

set_option maxHeartbeats 16000000 in
theorem xTarget_any (v u : Value) (l : List Nd) (p : List Pr) (w : World) {lo hi : Nat} (h : SetAt lo hi w v u l p) :
    Calls Try.prog 16 #[.agg #[v, u]] w fun e w' => e = .returned (.bool (targetF l p)) ∧ Below w.heap.size w w' := by
  obtain ⟨a, c, b, d, rfl, rfl⟩ := h.forms
  have bA : Below w.heap.size w (w.alloc (Obj.cells #[.slice a l.length c, .slice b p.length d] 36)) := (Below.refl _ _).alloc (Nat.le_refl _) _
  have y0 : (w.alloc (Obj.cells #[.slice a l.length c, .slice b p.length d] 36)).cell? ⟨w.heap.size, 0, none⟩ = some (.slice a l.length c) := by simp [go_sem]
  have y1 : (w.alloc (Obj.cells #[.slice a l.length c, .slice b p.length d] 36)).cell? ⟨w.heap.size, 1, none⟩ = some (.slice b p.length d) := by simp [go_sem]
  have hA := h.stays bA
  obtain ⟨TOP, hTOP⟩ : ∃ r, targetF l p = r := ⟨_, rfl⟩
  rw [hTOP]
  rw [targetF] at hTOP
  cases hF : treeF l p with
  | false =>
    rw [hF, Bool.false_and] at hTOP
    subst hTOP
    go_enter Try.func16, Try.ntmps16
    go_wp2_with (go_at_call 34; refine (l5tree_any _ _ l p _ hA).mono ?_; rw [hF]; rintro e w2 ⟨rfl, hb2⟩)
    go_ret
    exact ⟨rfl, bA.trans (hb2.mono bA.size)⟩
  | true =>
  obtain ⟨hT, hPs⟩ := treeF_iff.1 hF
  have hl4 := hT.nodes
  rw [hF, Bool.true_and] at hTOP
  by_cases hp0 : p.length = 0
  · rw [decide_eq_false (show ¬ 1 ≤ p.length by omega), Bool.false_and] at hTOP
    subst hTOP
    have hp0' : (p.length : Int) < 1 := by omega
    clear hp0
    go_enter Try.func16, Try.ntmps16
    go_wp2_with (go_at_call 34; refine (l5tree_any _ _ l p _ hA).mono ?_; rw [hF]; rintro e w2 ⟨rfl, hb2⟩; have y0' := cell_stays hb2 y0; have y1' := cell_stays hb2 y1)
    go_ret
    exact ⟨rfl, bA.trans (hb2.mono bA.size)⟩
  rw [decide_eq_true (show 1 ≤ p.length by omega), Bool.true_and] at hTOP
  have hp1 : ¬ (p.length : Int) < 1 := by omega
  by_cases hp4 : 4 < p.length
  · rw [decide_eq_false (show ¬ p.length ≤ 4 by omega), Bool.false_and] at hTOP
    subst hTOP
    have hp4' : (4 : Int) < (p.length : Int) := by omega
    go_enter Try.func16, Try.ntmps16
    go_wp2_with (go_at_call 34; refine (l5tree_any _ _ l p _ hA).mono ?_; rw [hF]; rintro e w2 ⟨rfl, hb2⟩; have y0' := cell_stays hb2 y0; have y1' := cell_stays hb2 y1)
    go_ret
    exact ⟨rfl, bA.trans (hb2.mono bA.size)⟩
  rw [decide_eq_true (show p.length ≤ 4 by omega), Bool.true_and] at hTOP
  have hp4' : ¬ (4 : Int) < (p.length : Int) := by omega
  cases hM : timesF l with
  | false =>
    rw [hM, Bool.false_and] at hTOP
    subst hTOP
    go_enter Try.func16, Try.ntmps16
    go_wp2_with (first | (go_at_call 34; refine (l5tree_any _ _ l p _ hA).mono ?_; rw [hF]; rintro e w2 ⟨rfl, hb2⟩; have y0' := cell_stays hb2 y0; have y1' := cell_stays hb2 y1) | (go_at_call 35; refine (l5times_any _ _ l p _ (hA.stays hb2)).mono ?_; rw [hM]; rintro e w3 ⟨rfl, hb3⟩))
    go_ret
    exact ⟨rfl, (bA.trans (hb2.mono bA.size)).trans (hb3.mono (by have := bA.size; have := hb2.size; omega))⟩
  | true =>
  rw [hM, Bool.true_and] at hTOP
  change Hid _ at hTOP
  have HT : Hid (TimesOk l) := timesF_ok hM
  have HQ : Hid (TreeQ l p) := hT
  have HF : Hid (treeF l p = true) := hF
  clear hT
  go_enter Try.func16, Try.ntmps16
  go_wp2_with (first | (go_at_call 34; refine (l5tree_any _ _ l p _ hA).mono ?_; rw [hF]; rintro e w2 ⟨rfl, hb2⟩; have y0' := cell_stays hb2 y0; have y1' := cell_stays hb2 y1) | (go_at_call 35; refine (l5times_any _ _ l p _ (hA.stays hb2)).mono ?_; rw [hM]; rintro e w3 ⟨rfl, hb3⟩; have y0'' := cell_stays hb3 y0'; have y1'' := cell_stays hb3 y1'))
  have bW : Below w.heap.size w w3 := (bA.trans (hb2.mono bA.size)).trans (hb3.mono (by have := bA.size; have := hb2.size; omega))
  have hS := (hA.stays hb2).stays hb3
  clear hb2 hb3 bA y0 y1 y0' y1' hA hF hM
  generalize hB : w.heap.size = B at *
  obtain ⟨a1, c1, e1, _, hcn⟩ := id hS.1
  cases e1
  obtain ⟨a2, c2, e2, _, hcp⟩ := id hS.2
  cases e2
  go_loopw [3] (fun t3 wr' => ∃ i : Nat, t3 = .int .i64 (i : Int) ∧ i ≤ l.length ∧ Below w3.heap.size w3 wr' ∧ Hid (∀ x, x < i → wrongTab (ndAt l x) = false)) (fun t3 _ => l.length - (intOf t3).toNat)
  case atStart => exact ⟨0, rfl, Nat.zero_le _, Below.refl _ _, fun x hx => absurd hx (Nat.not_lt_zero _)⟩
  case round =>
    rename World => wo
    obtain ⟨i, rfl, hile, hb, hall⟩ := hrel
    have bO := bW.trans (hb.mono (by have := bW.size; omega))
    have z0 := cell_stays hb y0''
    have z1 := cell_stays hb y1''
    have hSo := hS.stays hb
    by_cases hlt : i < l.length
    · obtain ⟨nb, off, rfl, _, _, hcl⟩ := hcn (by omega)
      obtain ⟨n0, n1, n2, ka, kc, n3, _⟩ := hcl i hlt
      replace n0 := cell_stays hb n0
      replace n1 := cell_stays hb n1
      replace n2 := cell_stays hb n2
      replace n3 := cell_stays hb n3
      have i0 : (0 : Int) ≤ (i : Int) := by omega
      have i1 : (i : Int) < (l.length : Int) := by omega
      have next : wrongTab (ndAt l i) = false → Hid (∀ x, x < i + 1 → wrongTab (ndAt l x) = false) := fun he x hx => by
        by_cases e : x = i
        · subst e; exact he
        · exact hall.out x (by omega)
      have bad : wrongTab (ndAt l i) = true → TOP = false := fun hne => hTOP.out.symm.trans (targetR_tab hlt hne)
      have bL := fun o => (Below.refl wo.heap.size wo).alloc (Nat.le_refl _) o
      clear hcl hcn hcp hall
      generalize ndAt l i = nd at *
      obtain ⟨K, s, N, kids⟩ := nd
      simp only [wrongTab] at next bad
      by_cases k21 : K = 21
      · subst k21
        by_cases m0 : N < 0
        · have e := bad (by simp; try omega)
          subst e
          clear next bad hTOP
          go_wp2
          go_ret
          exact ⟨rfl, by (try rw [hB]); exact bO.trans ((bL _).mono (by have := bO.size; omega))⟩
        by_cases m1 : 3 < N
        · have e := bad (by simp; try omega)
          subst e
          clear next bad hTOP
          go_wp2
          go_ret
          exact ⟨rfl, by (try rw [hB]); exact bO.trans ((bL _).mono (by have := bO.size; omega))⟩
        have nx := next (by simp; try omega)
        clear next bad
        go_wp2
        go_roundw
        case rel => exact ⟨i + 1, by go_num, by omega, hb.trans ((bL _).mono hb.size), nx⟩
        case measure => simp [intOf]; omega
      by_cases k22 : K = 22
      · subst k22
        by_cases m0 : N < 0
        · have e := bad (by simp; try omega)
          subst e
          clear next bad hTOP
          go_wp2
          go_ret
          exact ⟨rfl, by (try rw [hB]); exact bO.trans ((bL _).mono (by have := bO.size; omega))⟩
        by_cases m1 : 4 < N
        · have e := bad (by simp; try omega)
          subst e
          clear next bad hTOP
          go_wp2
          go_ret
          exact ⟨rfl, by (try rw [hB]); exact bO.trans ((bL _).mono (by have := bO.size; omega))⟩
        have nx := next (by simp; try omega)
        clear next bad
        go_wp2
        go_roundw
        case rel => exact ⟨i + 1, by go_num, by omega, hb.trans ((bL _).mono hb.size), nx⟩
        case measure => simp [intOf]; omega
      have q21 : (K == 21) = false := beq_eq_false_iff_ne.2 k21
      have q22 : (K == 22) = false := beq_eq_false_iff_ne.2 k22
      have nx := next (by simp [k21, k22])
      clear next bad
      go_wp2
      go_roundw
      case rel => exact ⟨i + 1, by go_num, by omega, hb.trans ((bL _).mono hb.size), nx⟩
      case measure => simp [intOf]; omega
    · have hlt' : ¬ (i : Int) < (l.length : Int) := by omega
      have HA : Hid (∀ x, x < l.length → wrongTab (ndAt l x) = false) := fun x hx => hall.out x (by omega)
      clear hall hcn y0'' y1''
      go_wp2_with fail
      go_loopw [5] (fun t5 wr' => ∃ j : Nat, t5 = .int .i64 (j : Int) ∧ j ≤ p.length ∧ Below wo.heap.size wo wr' ∧ Hid (∀ x, x < j → procBad l (prAt p x) = false)) (fun t5 _ => p.length - (intOf t5).toNat)
      case atStart => exact ⟨0, rfl, Nat.zero_le _, Below.refl _ _, fun x hx => absurd hx (Nat.not_lt_zero _)⟩
      case round =>
        rename World => wi
        obtain ⟨j, rfl, hj, hbi, hall⟩ := hrel
        have bI := bO.trans (hbi.mono (by have := bO.size; omega))
        replace z0 := cell_stays hbi z0
        replace z1 := cell_stays hbi z1
        have hSi := hSo.stays hbi
        by_cases hjl : j < p.length
        · obtain ⟨pb, off, rfl, _, _, hcl⟩ := hcp (by omega)
          obtain ⟨_, ⟨ka, kc, n1, _⟩, _⟩ := hcl j hjl
          replace n1 := cell_stays hbi (cell_stays hb n1)
          have j0 : (0 : Int) ≤ (j : Int) := by omega
          have j1 : (j : Int) < (p.length : Int) := by omega
          have hps := hPs _ (prAt_mem' hjl)
          have next : procBad l (prAt p j) = false → Hid (∀ x, x < j + 1 → procBad l (prAt p x) = false) := fun he x hx => by
            by_cases e : x = j
            · subst e; exact he
            · exact hall.out x (by omega)
          have bad : procBad l (prAt p j) = true → TOP = false := fun hne => hTOP.out.symm.trans (targetR_proc hjl hne)
          have hC1 : ∀ w', SetAt lo hi w' (.slice a l.length c) (.slice (some ⟨pb, off, none⟩) p.length d) l p → Calls Try.prog 36 #[.agg #[.slice a l.length c, .slice (some ⟨pb, off, none⟩) p.length d], .int .i64 (j : Int)] w' fun e w'' => e = .returned (.int .i64 (cntP l (prAt p j))) ∧ Below w'.heap.size w' w'' := fun w' hw' => xStmts_any _ _ l p j w' hw' HQ.out HF.out hjl
          have hC2 : ∀ w', SetAt lo hi w' (.slice a l.length c) (.slice (some ⟨pb, off, none⟩) p.length d) l p → Calls Try.prog 37 #[.agg #[.slice a l.length c, .slice (some ⟨pb, off, none⟩) p.length d], .int .i64 (j : Int)] w' fun e w'' => e = .returned (.int .i64 (stpP l (prAt p j))) ∧ Below w'.heap.size w' w'' := fun w' hw' => xBound_any _ _ l p j w' hw' HQ.out HF.out HT.out hjl
          simp only [procBad] at next bad
          clear hcl hcp hall
          generalize (prAt p j).ps.length = P at *
          generalize cntP l (prAt p j) = C at *
          generalize stpP l (prAt p j) = D at *
          by_cases p3 : 3 < P
          · have e := bad (by simp [p3])
            have p3' : (3 : Int) < (P : Int) := by omega
            subst e
            clear next bad hTOP
            go_wp2
            go_ret
            exact ⟨rfl, by (try rw [hB]); exact bI⟩
          have p3' : ¬ (3 : Int) < (P : Int) := by omega
          by_cases c97 : 97 < C
          · have e := bad (by simp [c97])
            subst e
            clear next bad hTOP
            go_wp2_with (go_at_call 36; refine (hC1 _ hSi).mono ?_; rintro e w5 ⟨rfl, hb5⟩)
            go_ret
            exact ⟨rfl, by (try rw [hB]); exact bI.trans (hb5.mono (by have := bI.size; omega))⟩
          by_cases d24 : 2410 < D
          · have e := bad (by simp [d24])
            subst e
            clear next bad hTOP
            go_wp2_with (first | (go_at_call 36; refine (hC1 _ hSi).mono ?_; rintro e w5 ⟨rfl, hb5⟩; have z0' := cell_stays hb5 z0; have z1' := cell_stays hb5 z1) | (go_at_call 37; refine (hC2 _ (hSi.stays hb5)).mono ?_; rintro e w6 ⟨rfl, hb6⟩))
            go_ret
            exact ⟨rfl, by (try rw [hB]); exact (bI.trans (hb5.mono (by have := bI.size; omega))).trans (hb6.mono (by have := bI.size; have := hb5.size; omega))⟩
          have nx := next (by simp; omega)
          clear next bad
          go_wp2_with (first | (go_at_call 36; refine (hC1 _ hSi).mono ?_; rintro e w5 ⟨rfl, hb5⟩; have z0' := cell_stays hb5 z0; have z1' := cell_stays hb5 z1) | (go_at_call 37; refine (hC2 _ (hSi.stays hb5)).mono ?_; rintro e w6 ⟨rfl, hb6⟩))
          go_roundw
          case rel => exact ⟨j + 1, by go_num, by omega, (hbi.trans (hb5.mono hbi.size)).trans (hb6.mono (by have := hbi.size; have := hb5.size; omega)), nx⟩
          case measure => simp [intOf]; omega
        · have hjl' : ¬ (j : Int) < (p.length : Int) := by omega
          have e : TOP = true := hTOP.out.symm.trans (targetR_good HA.out fun x hx => hall.out x (by omega))
          subst e
          clear hall hTOP
          go_wp2
          go_ret
          exact ⟨rfl, by (try rw [hB]); exact bI⟩

end Go.Proofs.Ytjikmpdgednlaaa
