/- The program's TargetOk. -/
import Derived.Test.YtjikmpdgednlaaaITab
import Derived.Test.YtjikmpdgednlaaaYIs
namespace Go.Proofs.Ytjikmpdgednlaaa
open Go.ChangeShapes Go.WideShapes Go.ChangeAt Go.RowKit
set_option linter.unusedVariables false
set_option maxRecDepth 100000
attribute [local go_sem ↓] Go.wp_at_zero Go.wp_at_succ

def procsR (l : List Nd) (p : List Pr) : Bool := timesF l && !(p.any (procBad l))
def procsF' (l : List Nd) (p : List Pr) : Bool := decide (1 ≤ p.length) && (decide (p.length ≤ 4) && procsR l p)
theorem anyProc_bad {l : List Nd} {p : List Pr} {i : Nat} (hi : i < p.length) (h : procBad l (prAt p i) = true) : p.any (procBad l) = true := List.any_eq_true.2 ⟨_, prAt_mem' hi, h⟩
theorem anyProc_good {l : List Nd} {p : List Pr} (h : ∀ i, i < p.length → procBad l (prAt p i) = false) : p.any (procBad l) = false := by
  rw [List.any_eq_false]
  intro x hx
  obtain ⟨i, hi, rfl⟩ := List.mem_iff_getElem.1 hx
  have e : prAt p i = p[i] := by simp [prAt, hi]
  have := h i hi
  rw [e] at this
  simp [this]

theorem below_new (w : World) (o : Obj) : Below w.heap.size w (w.alloc o) := (Below.refl _ _).alloc (Nat.le_refl _) o
theorem blk5 (w : World) (T : TypeId) (K : Int) (s : ByteArray) (N : Int) (ka : Option Addr) (m kc : Nat) (a : Option Addr) (q c : Nat) :
    (w.alloc (Obj.cells #[.int .i64 K, .string s, .int .i64 N, .slice ka m kc, .slice a q c] T)).cell? ⟨w.heap.size, 0, none⟩ = some (.int .i64 K) ∧
    (w.alloc (Obj.cells #[.int .i64 K, .string s, .int .i64 N, .slice ka m kc, .slice a q c] T)).cell? ⟨w.heap.size, 1, none⟩ = some (.string s) ∧
    (w.alloc (Obj.cells #[.int .i64 K, .string s, .int .i64 N, .slice ka m kc, .slice a q c] T)).cell? ⟨w.heap.size, 1 + 1, none⟩ = some (.int .i64 N) ∧
    (w.alloc (Obj.cells #[.int .i64 K, .string s, .int .i64 N, .slice ka m kc, .slice a q c] T)).cell? ⟨w.heap.size, 1 + 1 + 1, none⟩ = some (.slice ka m kc) ∧
    (w.alloc (Obj.cells #[.int .i64 K, .string s, .int .i64 N, .slice ka m kc, .slice a q c] T)).cell? ⟨w.heap.size, 1 + 1 + 1 + 1, none⟩ = some (.slice a q c) := ⟨by simp [go_sem], by simp [go_sem], by simp [go_sem], by simp [go_sem], by simp [go_sem]⟩

set_option maxHeartbeats 16000000 in
theorem procsOk_any (v u : Value) (l : List Nd) (p : List Pr) (w : World) {lo hi : Nat} (h : SetAt lo hi w v u l p) (hT : TreeQ l p) :
    Calls Try.prog 44 #[.agg #[v, u], .int .i64 97, .int .i64 2410] w fun e w' => e = .returned (.bool (procsF' l p)) ∧ Below w.heap.size w w' := by
  obtain ⟨a, c, b, d, rfl, rfl⟩ := h.forms
  have bA : Below w.heap.size w (w.alloc (Obj.cells #[.slice a l.length c, .slice b p.length d] 36)) := (Below.refl _ _).alloc (Nat.le_refl _) _
  have y0 : (w.alloc (Obj.cells #[.slice a l.length c, .slice b p.length d] 36)).cell? ⟨w.heap.size, 0, none⟩ = some (.slice a l.length c) := by simp [go_sem]
  have y1 : (w.alloc (Obj.cells #[.slice a l.length c, .slice b p.length d] 36)).cell? ⟨w.heap.size, 1, none⟩ = some (.slice b p.length d) := by simp [go_sem]
  have hA := h.stays bA
  have hp8 := hT.procs
  obtain ⟨TOP, hTOP⟩ : ∃ r, procsF' l p = r := ⟨_, rfl⟩
  rw [hTOP]
  rw [procsF'] at hTOP
  by_cases hp0 : p.length < 1
  · rw [decide_eq_false (show ¬ 1 ≤ p.length by omega), Bool.false_and] at hTOP
    subst hTOP
    have hp0' : (p.length : Int) < 1 := by omega
    clear hp0 hp8
    go_enter Try.func44, Try.ntmps44
    go_wp2
    go_ret
    exact ⟨rfl, bA⟩
  rw [decide_eq_true (show 1 ≤ p.length by omega), Bool.true_and] at hTOP
  have hp1 : ¬ (p.length : Int) < 1 := by omega
  by_cases hp4 : 4 < p.length
  · rw [decide_eq_false (show ¬ p.length ≤ 4 by omega), Bool.false_and] at hTOP
    subst hTOP
    have hp4' : (4 : Int) < (p.length : Int) := by omega
    go_enter Try.func44, Try.ntmps44
    go_wp2
    go_ret
    exact ⟨rfl, bA⟩
  rw [decide_eq_true (show p.length ≤ 4 by omega), Bool.true_and, procsR] at hTOP
  have hp4' : ¬ (4 : Int) < (p.length : Int) := by omega
  cases hM : timesF l with
  | false =>
    rw [hM, Bool.false_and] at hTOP
    subst hTOP
    go_enter Try.func44, Try.ntmps44
    go_wp2_with (go_at_call 66; refine (hasTimes_any _ l _ hA.1).mono ?_; rw [hM]; rintro e w3 ⟨rfl, hb3⟩)
    go_ret
    exact ⟨rfl, bA.trans (hb3.mono bA.size)⟩
  | true =>
  rw [hM, Bool.true_and] at hTOP
  change Hid _ at hTOP
  have HT : Hid (TimesOk l) := timesF_ok hM
  have HQ : Hid (TreeQ l p) := hT
  clear hT
  go_enter Try.func44, Try.ntmps44
  go_wp2_with (go_at_call 66; refine (hasTimes_any _ l _ hA.1).mono ?_; rw [hM]; rintro e w3 ⟨rfl, hb3⟩; have y0' := cell_stays hb3 y0; have y1' := cell_stays hb3 y1)
  have bW : Below w.heap.size w w3 := bA.trans (hb3.mono bA.size)
  have hS := hA.stays hb3
  clear hb3 bA y0 y1 hA hM
  generalize hB : w.heap.size = B at *
  obtain ⟨a2, c2, e2, hm2, hcp⟩ := id hS.2
  cases e2
  unfold maxLen at hm2
  go_loopw [28] (fun t28 wr' => ∃ j : Nat, t28 = .int .i64 (j : Int) ∧ j ≤ p.length ∧ Below w3.heap.size w3 wr' ∧ Hid (∀ x, x < j → procBad l (prAt p x) = false)) (fun t28 _ => p.length - (intOf t28).toNat)
  case atStart => exact ⟨0, rfl, Nat.zero_le _, Below.refl _ _, fun x hx => absurd hx (Nat.not_lt_zero _)⟩
  case round =>
    rename World => wo
    obtain ⟨j, rfl, hj, hb, hall⟩ := hrel
    have bO := bW.trans (hb.mono (by have := bW.size; omega))
    by_cases hjl : j < p.length
    · have z0 := cell_stays hb y0'
      have z1 := cell_stays hb y1'
      have hSo := hS.stays hb
      obtain ⟨pb, off, rfl, _, _, hcl⟩ := hcp (by omega)
      obtain ⟨n0, ⟨ka, kc, n1, _⟩, n2⟩ := hcl j hjl
      replace n0 := cell_stays hb n0
      replace n1 := cell_stays hb n1
      replace n2 := cell_stays hb n2
      have j0 : (0 : Int) ≤ (j : Int) := by omega
      have j1 : (j : Int) < (p.length : Int) := by omega
      have hbd := HQ.out.body _ (prAt_mem' hjl)
      obtain ⟨x, hx⟩ := Int.eq_ofNat_of_zero_le hbd.1
      have hxl : x < l.length := by omega
      have hk27 : (ndAt l x).k = 27 := by have := hbd.2.2; rw [hx] at this; exact this
      have hc1 : cntP l (prAt p j) = wr (cntF l l.length x) := by rw [cntP, hx]; rfl
      have hc2 : stpP l (prAt p j) = capI (1 + stpF l l.length x) := by rw [stpP, hx]; rfl
      have next : procBad l (prAt p j) = false → Hid (∀ x, x < j + 1 → procBad l (prAt p x) = false) := fun he x hx => by
        by_cases e : x = j
        · subst e; exact he
        · exact hall.out x (by omega)
      have bad : procBad l (prAt p j) = true → TOP = false := fun hne => hTOP.out.symm.trans (by rw [anyProc_bad hjl hne]; rfl)
      have HS1 := (stm_all (a := a) (c := c) (lo := lo) (hi := hi) HQ.out.node l.length).1 x hxl hxl hk27
      have HS2 := (bnd_all (a := a) (c := c) (lo := lo) (hi := hi) HQ.out.node HT.out l.length).1 x hxl hxl hk27
      obtain ⟨zl, zh⟩ := stpF_nn HQ.out.node HT.out l.length x hxl
      simp only [procBad] at next bad
      rw [hc1, hc2] at next bad
      have HX : Hid ((prAt p j).body = (x : Int)) := hx
      have q1 : (wo.alloc (Obj.cells #[.string (prAt p j).name, .slice ka (prAt p j).ps.length kc, .int .i64 (prAt p j).body] 73)).cell? ⟨wo.heap.size, 1, none⟩ = some (.slice ka (prAt p j).ps.length kc) := by simp [go_sem]
      have bP := below_new wo (Obj.cells #[.string (prAt p j).name, .slice ka (prAt p j).ps.length kc, .int .i64 (prAt p j).body] 73)
      replace z0 := cell_stays bP z0
      replace z1 := cell_stays bP z1
      have hSp := hSo.stays bP
      have bOp := bO.trans (bP.mono (by have := bO.size; omega))
      clear hcl hcp hall hc1 hc2 hx hk27 hbd
      generalize hNM : (prAt p j).name = NM at *
      generalize hP : (prAt p j).ps.length = P at *
      generalize hBD : (prAt p j).body = BD at *
      generalize wr (cntF l l.length x) = C at *
      generalize stpF l l.length x = D at *
      by_cases p3 : 3 < P
      · have e := bad (by simp [p3])
        have p3' : (3 : Int) < (P : Int) := by omega
        subst e
        clear next bad hTOP hNM hP
        go_wp2_with (go_at_call 68; refine (bodyOf_any a c (some ⟨pb, off, none⟩) d l p j x _ hSp hjl (hBD.trans HX.out) hxl).mono ?_; rintro e w4 ⟨⟨qa, qc, rfl, Q⟩, hb4⟩; have q1' := cell_stays hb4 q1; have q1'' := fun o => cell_stays (below_new w4 o) q1')
        go_ret
        exact ⟨rfl, by (try rw [hB]); exact (bOp.trans (hb4.mono (by have := bOp.size; omega))).trans ((below_new w4 _).mono (by have := bOp.size; have := hb4.size; omega))⟩
      have p3' : ¬ (3 : Int) < (P : Int) := by omega
      by_cases c97 : 97 < C
      · have e := bad (by simp [c97])
        subst e
        clear next bad hTOP hNM hP
        go_wp2_with (first | (go_at_call 68; refine (bodyOf_any a c (some ⟨pb, off, none⟩) d l p j x _ hSp hjl (hBD.trans HX.out) hxl).mono ?_; rintro e w4 ⟨⟨qa, qc, rfl, Q⟩, hb4⟩; have q1' := cell_stays hb4 q1; have q1'' := fun o => cell_stays (below_new w4 o) q1') | (go_at_call 69; refine (HS1 qa qc _ ((hSp.1.stays hb4).stays (below_new w4 _)) (((Q.ints hSp.1 hxl).stays hb4).stays (below_new w4 _))).mono ?_; rintro e w5 ⟨rfl, hb5⟩))
        go_ret
        have b4 := bOp.trans (hb4.mono (by have := bOp.size; omega))
        have b4' := b4.trans ((below_new w4 (Obj.cells #[.int .i64 (ndAt l x).k, .string (ndAt l x).s, .int .i64 (ndAt l x).n, .slice qa (ndAt l x).kids.length qc, .slice a l.length c] 106)).mono (by have := b4.size; omega))
        exact ⟨rfl, by (try rw [hB]); exact b4'.trans (hb5.mono (by have := b4'.size; omega))⟩
      by_cases d24 : 2410 < capI (1 + D)
      · have e := bad (by simp [d24])
        subst e
        clear next bad hTOP hNM hP
        obtain ⟨DD, hDD⟩ : ∃ x, capI (1 + D) = x := ⟨_, rfl⟩
        rw [hDD] at d24
        go_wp2_with (first | (go_at_call 68; refine (bodyOf_any a c (some ⟨pb, off, none⟩) d l p j x _ hSp hjl (hBD.trans HX.out) hxl).mono ?_; rintro e w4 ⟨⟨qa, qc, rfl, Q⟩, hb4⟩; have q1' := cell_stays hb4 q1; have q1'' := fun o => cell_stays (below_new w4 o) q1') | (go_at_call 69; refine (HS1 qa qc _ ((hSp.1.stays hb4).stays (below_new w4 _)) (((Q.ints hSp.1 hxl).stays hb4).stays (below_new w4 _))).mono ?_; rintro e w5 ⟨rfl, hb5⟩; obtain ⟨f0, f1, f2, f3, f4⟩ := blk5 w4 106 (ndAt l x).k (ndAt l x).s (ndAt l x).n qa (ndAt l x).kids.length qc a l.length c; have g0 := cell_stays hb5 f0; have g1 := cell_stays hb5 f1; have g2 := cell_stays hb5 f2; have g3 := cell_stays hb5 f3; have g4 := cell_stays hb5 f4) | (go_at_call 70; refine (procBound_any (ndAt l x).k (ndAt l x).s (ndAt l x).n qa (ndAt l x).kids.length qc a l.length c D _ zl zh (fun w' hw' => HS2 qa qc w' ((((hSp.1.stays hb4).stays (below_new w4 _)).stays hb5).stays hw') (((((Q.ints hSp.1 hxl).stays hb4).stays (below_new w4 _)).stays hb5).stays hw'))).mono ?_; rw [hDD]; rintro e w6 ⟨rfl, hb6⟩))
        go_ret
        have b4 := bOp.trans (hb4.mono (by have := bOp.size; omega))
        have b4' := b4.trans ((below_new w4 (Obj.cells #[.int .i64 (ndAt l x).k, .string (ndAt l x).s, .int .i64 (ndAt l x).n, .slice qa (ndAt l x).kids.length qc, .slice a l.length c] 106)).mono (by have := b4.size; omega))
        have b5 := b4'.trans (hb5.mono (by have := b4'.size; omega))
        exact ⟨rfl, by (try rw [hB]); exact b5.trans (hb6.mono (by have := b5.size; omega))⟩
      · have nx := next (by simp; omega)
        clear next bad hNM hP
        obtain ⟨DD, hDD⟩ : ∃ x, capI (1 + D) = x := ⟨_, rfl⟩
        rw [hDD] at d24
        go_wp2_with (first | (go_at_call 68; refine (bodyOf_any a c (some ⟨pb, off, none⟩) d l p j x _ hSp hjl (hBD.trans HX.out) hxl).mono ?_; rintro e w4 ⟨⟨qa, qc, rfl, Q⟩, hb4⟩; have q1' := cell_stays hb4 q1; have q1'' := fun o => cell_stays (below_new w4 o) q1') | (go_at_call 69; refine (HS1 qa qc _ ((hSp.1.stays hb4).stays (below_new w4 _)) (((Q.ints hSp.1 hxl).stays hb4).stays (below_new w4 _))).mono ?_; rintro e w5 ⟨rfl, hb5⟩; obtain ⟨f0, f1, f2, f3, f4⟩ := blk5 w4 106 (ndAt l x).k (ndAt l x).s (ndAt l x).n qa (ndAt l x).kids.length qc a l.length c; have g0 := cell_stays hb5 f0; have g1 := cell_stays hb5 f1; have g2 := cell_stays hb5 f2; have g3 := cell_stays hb5 f3; have g4 := cell_stays hb5 f4) | (go_at_call 70; refine (procBound_any (ndAt l x).k (ndAt l x).s (ndAt l x).n qa (ndAt l x).kids.length qc a l.length c D _ zl zh (fun w' hw' => HS2 qa qc w' ((((hSp.1.stays hb4).stays (below_new w4 _)).stays hb5).stays hw') (((((Q.ints hSp.1 hxl).stays hb4).stays (below_new w4 _)).stays hb5).stays hw'))).mono ?_; rw [hDD]; rintro e w6 ⟨rfl, hb6⟩))
        have b4 := hb.trans (bP.mono hb.size)
        have b4' := b4.trans (hb4.mono b4.size)
        have b4'' := b4'.trans ((below_new w4 (Obj.cells #[.int .i64 (ndAt l x).k, .string (ndAt l x).s, .int .i64 (ndAt l x).n, .slice qa (ndAt l x).kids.length qc, .slice a l.length c] 106)).mono b4'.size)
        have b5 := b4''.trans (hb5.mono b4''.size)
        go_roundw
        case rel => exact ⟨j + 1, by go_num, by omega, b5.trans (hb6.mono b5.size), nx⟩
        case measure => simp [intOf]; omega
    · have hjl' : ¬ (j : Int) < (p.length : Int) := by omega
      have e : TOP = true := hTOP.out.symm.trans (by rw [anyProc_good fun x hx => hall.out x (by omega)]; rfl)
      subst e
      clear hall hTOP
      go_wp2
      go_ret
      exact ⟨rfl, by (try rw [hB]); exact bO⟩

theorem target_eq {l : List Nd} {p : List Pr} : targetF l p = (treeI l p && (procsF' l p && !(l.any wrongTab))) := by
  rw [Bool.eq_iff_iff, targetF, procsF', procsR, targetR]
  simp only [Bool.and_eq_true, treeF_iff, treeI_iff, decide_eq_true_eq]
  constructor
  · rintro ⟨⟨h1, h2⟩, h3, h4, h5, h6, h7⟩
    exact ⟨h1, ⟨h3, h4, h5, h7⟩, h6⟩
  · rintro ⟨h1, ⟨h3, h4, h5, h7⟩, h6⟩
    refine ⟨⟨h1, fun x hx => ?_⟩, h3, h4, h5, h6, h7⟩
    have h8 : p.any (procBad l) = false := by simpa using h7
    rw [List.any_eq_false] at h8
    have h9 := h8 x hx
    simp only [procBad, Bool.or_eq_true, decide_eq_true_eq] at h9
    omega

set_option maxHeartbeats 4000000 in
theorem target_any (v u : Value) (l : List Nd) (p : List Pr) (w : World) {lo hi : Nat} (h : SetAt lo hi w v u l p) (hs : sumS l + sumP p ≤ 4611686018427387904) :
    Calls Try.prog 23 #[.agg #[v, u]] w fun e w' => e = .returned (.bool (targetF l p)) ∧ Below w.heap.size w w' := by
  obtain ⟨a, c, b, d, rfl, rfl⟩ := h.forms
  have bA : Below w.heap.size w (w.alloc (Obj.cells #[.slice a l.length c, .slice b p.length d] 36)) := (Below.refl _ _).alloc (Nat.le_refl _) _
  have y0 : (w.alloc (Obj.cells #[.slice a l.length c, .slice b p.length d] 36)).cell? ⟨w.heap.size, 0, none⟩ = some (.slice a l.length c) := by simp [go_sem]
  have y1 : (w.alloc (Obj.cells #[.slice a l.length c, .slice b p.length d] 36)).cell? ⟨w.heap.size, 1, none⟩ = some (.slice b p.length d) := by simp [go_sem]
  have hA := h.stays bA
  rw [target_eq]
  cases hI : treeI l p with
  | false =>
    go_enter Try.func23, Try.ntmps23
    go_wp2_with (go_at_call 43; refine (isTreeSet_any _ _ l p _ hA hs).mono ?_; rw [hI]; rintro e w2 ⟨rfl, hb2⟩)
    go_ret
    exact ⟨rfl, bA.trans (hb2.mono bA.size)⟩
  | true =>
    have hT := treeI_iff.1 hI
    rw [Bool.true_and]
    cases hP : procsF' l p with
    | false =>
      go_enter Try.func23, Try.ntmps23
      go_wp2_with (first | (go_at_call 43; refine (isTreeSet_any _ _ l p _ hA hs).mono ?_; rw [hI]; rintro e w2 ⟨rfl, hb2⟩; have z0 := cell_stays hb2 y0; have z1 := cell_stays hb2 y1) | (go_at_call 44; refine (procsOk_any _ _ l p _ (hA.stays hb2) hT).mono ?_; rw [hP]; rintro e w3 ⟨rfl, hb3⟩))
      go_ret
      exact ⟨rfl, (bA.trans (hb2.mono bA.size)).trans (hb3.mono (by have := bA.size; have := hb2.size; omega))⟩
    | true =>
      rw [Bool.true_and]
      obtain ⟨TOP, hTOP⟩ : ∃ r, (!(l.any wrongTab)) = r := ⟨_, rfl⟩
      rw [hTOP]
      go_enter Try.func23, Try.ntmps23
      go_wp2_with (first | (go_at_call 43; refine (isTreeSet_any _ _ l p _ hA hs).mono ?_; rw [hI]; rintro e w2 ⟨rfl, hb2⟩; have z0 := cell_stays hb2 y0; have z1 := cell_stays hb2 y1) | (go_at_call 44; refine (procsOk_any _ _ l p _ (hA.stays hb2) hT).mono ?_; rw [hP]; rintro e w3 ⟨rfl, hb3⟩; have v0 := cell_stays hb3 z0; have v1 := cell_stays hb3 z1) | (go_at_call 45; refine (tablesOk_any _ _ l p _ ((hA.stays hb2).stays hb3)).mono ?_; rw [hTOP]; rintro e w4 ⟨rfl, hb4⟩))
      go_ret
      have b3 := (bA.trans (hb2.mono bA.size)).trans (hb3.mono (by have := bA.size; have := hb2.size; omega))
      exact ⟨rfl, b3.trans (hb4.mono b3.size)⟩

end Go.Proofs.Ytjikmpdgednlaaa
