/- The program's isTreeSet. -/
import Derived.Test.YtjikmpdgednlaaaZTree2
namespace Go.Proofs.Ytjikmpdgednlaaa
open Go.ChangeShapes Go.WideShapes Go.ChangeAt Go.RowKit
set_option linter.unusedVariables false
set_option maxRecDepth 100000
attribute [local go_sem ↓] Go.wp_at_zero Go.wp_at_succ

theorem treeI_many {l : List Nd} {p : List Pr} (h : 4000 < l.length) : treeI l p = false := by rw [treeI, decide_eq_false (by omega), Bool.false_and]
theorem treeI_procs {l : List Nd} {p : List Pr} (h : 800 < p.length) : treeI l p = false := by rw [treeI, decide_eq_false (show ¬ p.length ≤ 800 by omega), Bool.false_and, Bool.and_false]
theorem treeI_own {l : List Nd} {p : List Pr} (h : ownF l p = false) : treeI l p = false := by rw [treeI, h, Bool.false_and, Bool.and_false, Bool.and_false]
theorem treeI_kid {l : List Nd} {p : List Pr} {i : Nat} (hi : i < l.length) (h : kidsOkF l (ndAt l i).k (ndAt l i).kids = false) : treeI l p = false := by
  have : kidsAllF l = false := by
    rw [Bool.eq_false_iff]
    intro hh
    rw [kidsAllF, List.all_eq_true] at hh
    have := hh i (List.mem_range.2 hi)
    rw [h] at this
    cases this
  rw [treeI, this, Bool.false_and, Bool.and_false, Bool.and_false, Bool.and_false]
theorem prAt_mem {p : List Pr} {i : Nat} (hi : i < p.length) : prAt p i ∈ p := by
  have e : prAt p i = p[i] := by simp [prAt, hi]
  rw [e]
  exact List.getElem_mem hi
theorem treeI_body {l : List Nd} {p : List Pr} {i : Nat} (hi : i < p.length) (h : ¬ (ndAt l (prAt p i).body.toNat).k = 27) : treeI l p = false := by
  have : bodiesF l p = false := by
    rw [Bool.eq_false_iff]
    intro hh
    exact h (bodiesF_iff.1 hh _ (prAt_mem hi))
  rw [treeI, this, Bool.false_and, Bool.and_false, Bool.and_false, Bool.and_false, Bool.and_false]
theorem treeI_good {l : List Nd} {p : List Pr} (h1 : l.length ≤ 4000) (h2 : p.length ≤ 800) (h3 : ownF l p = true) (h4 : ∀ i, i < l.length → kidsOkF l (ndAt l i).k (ndAt l i).kids = true) (h5 : ∀ i, i < p.length → (ndAt l (prAt p i).body.toNat).k = 27) : treeI l p = fitF l p := by
  have e4 : kidsAllF l = true := by
    rw [kidsAllF, List.all_eq_true]
    intro i hi
    exact h4 i (List.mem_range.1 hi)
  have e5 : bodiesF l p = true := bodiesF_iff.2 fun x hx => by
    obtain ⟨i, hi, e⟩ := List.mem_iff_getElem.1 hx
    have e2 : prAt p i = x := by simp [prAt, hi, e]
    rw [← e2]
    exact h5 i hi
  rw [treeI, decide_eq_true h1, decide_eq_true h2, h3, e4, e5]
  rfl

set_option maxHeartbeats 8000000 in
theorem isTreeSet_any (v u : Value) (l : List Nd) (p : List Pr) (w : World) {lo hi : Nat} (h : SetAt lo hi w v u l p) (hs : sumS l + sumP p ≤ 4611686018427387904) :
    Calls Try.prog 43 #[.agg #[v, u]] w fun e w' => e = .returned (.bool (treeI l p)) ∧ Below w.heap.size w w' := by
  obtain ⟨a, c, b, d, rfl, rfl⟩ := h.forms
  have bA : Below w.heap.size w (w.alloc (Obj.cells #[.slice a l.length c, .slice b p.length d] 36)) := (Below.refl _ _).alloc (Nat.le_refl _) _
  have y0 : (w.alloc (Obj.cells #[.slice a l.length c, .slice b p.length d] 36)).cell? ⟨w.heap.size, 0, none⟩ = some (.slice a l.length c) := by simp [go_sem]
  have y1 : (w.alloc (Obj.cells #[.slice a l.length c, .slice b p.length d] 36)).cell? ⟨w.heap.size, 1, none⟩ = some (.slice b p.length d) := by simp [go_sem]
  have hA := h.stays bA
  have hm1 : l.length ≤ maxLen := by obtain ⟨_, _, e1, hm, _⟩ := id h.1; cases e1; exact hm
  have hm2 : p.length ≤ maxLen := by obtain ⟨_, _, e1, hm, _⟩ := id h.2; cases e1; exact hm
  unfold maxLen at hm1 hm2
  obtain ⟨TOP, hTOP⟩ : ∃ r, treeI l p = r := ⟨_, rfl⟩
  rw [hTOP]
  change Hid _ at hTOP
  by_cases hL : 4000 < l.length
  · have e : TOP = false := hTOP.out.symm.trans (treeI_many hL)
    have hL' : (4000 : Int) < (l.length : Int) := by omega
    subst e
    clear hTOP
    go_enter Try.func43, Try.ntmps43
    go_wp2
    go_ret
    exact ⟨rfl, bA⟩
  have hL' : ¬ (4000 : Int) < (l.length : Int) := by omega
  by_cases hP : 800 < p.length
  · have e : TOP = false := hTOP.out.symm.trans (treeI_procs hP)
    have hP' : (800 : Int) < (p.length : Int) := by omega
    subst e
    clear hTOP
    go_enter Try.func43, Try.ntmps43
    go_wp2
    go_ret
    exact ⟨rfl, bA⟩
  have hP' : ¬ (800 : Int) < (p.length : Int) := by omega
  cases hO : ownF l p with
  | false =>
    have e : TOP = false := hTOP.out.symm.trans (treeI_own hO)
    subst e
    clear hTOP
    go_enter Try.func43, Try.ntmps43
    go_wp2_with (go_at_call 62; refine (ownedOnce_any _ _ l p _ hA (by omega)).mono ?_; rw [hO]; rintro e w2 ⟨rfl, hb2⟩)
    go_ret
    exact ⟨rfl, bA.trans (hb2.mono bA.size)⟩
  | true =>
    have HO : Hid (OwnP1 l p) := ownF_iff.1 hO
    go_enter Try.func43, Try.ntmps43
    go_wp2_with (go_at_call 62; refine (ownedOnce_any _ _ l p _ hA (by omega)).mono ?_; rw [hO]; rintro e w2 ⟨rfl, hb2⟩; have y0' := cell_stays hb2 y0; have y1' := cell_stays hb2 y1)
    have bW := bA.trans (hb2.mono bA.size)
    have hN := hA.stays hb2
    replace y0 := y0'
    replace y1 := y1'
    clear y0' y1' hb2 bA hA
    generalize hB : w.heap.size = B at *
    go_loopw [24] (fun t24 wr => ∃ i : Nat, t24 = .int .i64 (i : Int) ∧ i ≤ l.length ∧ Below w2.heap.size w2 wr ∧ Hid (∀ x, x < i → kidsOkF l (ndAt l x).k (ndAt l x).kids = true)) (fun t24 _ => l.length - (intOf t24).toNat)
    case atStart => exact ⟨0, rfl, Nat.zero_le _, Below.refl _ _, fun x hx => absurd hx (Nat.not_lt_zero _)⟩
    case round =>
      rename World => wo
      obtain ⟨i, rfl, hi, hb, hall⟩ := hrel
      have bO := bW.trans (hb.mono (by have := bW.size; omega))
      have z0 := cell_stays hb y0
      have z1 := cell_stays hb y1
      have hNo := hN.stays hb
      by_cases hlt : i < l.length
      · have i0 : (0 : Int) ≤ (i : Int) := by omega
        have i1 : (i : Int) < (l.length : Int) := by omega
        have hlen := HO.out.kidsLen hlt
        have hin := HO.out.kids i hlt
        have next : kidsOkF l (ndAt l i).k (ndAt l i).kids = true → Hid (∀ x, x < i + 1 → kidsOkF l (ndAt l x).k (ndAt l x).kids = true) := fun he x hx => by
          by_cases e : x = i
          · subst e; exact he
          · exact hall.out x (by omega)
        have bad : kidsOkF l (ndAt l i).k (ndAt l i).kids = false → TOP = false := fun hne => hTOP.out.symm.trans (treeI_kid hlt hne)
        clear hall
        have HI : Hid (∀ j, j < (ndAt l i).kids.length → 0 ≤ iAt (ndAt l i).kids j ∧ iAt (ndAt l i).kids j < (l.length : Int)) := fun j hj => by have := hin _ (iAt_mem hj); omega
        clear hin
        cases hk : kidsOkF l (ndAt l i).k (ndAt l i).kids with
        | false =>
          have e := bad hk
          subst e
          clear next bad hTOP
          go_wp2_with (first | (go_at_call 63; refine (headOf_any a c l i _ hNo.1 hlt).mono ?_; rintro e w3 ⟨⟨ka, kc, rfl, Q⟩, hb3⟩) | (go_at_call 64; refine (kidsOk_any a c l _ _ _ ka _ kc (ndAt l i).kids _ (hNo.1.stays hb3) ((Q.ints hNo.1 hlt).stays hb3) rfl (by omega) HI.out).mono ?_; rw [hk]; rintro e w4 ⟨rfl, hb4⟩))
          go_ret
          exact ⟨rfl, by rw [hB]; exact (bO.trans (hb3.mono (by have := bO.size; omega))).trans (hb4.mono (by have := bO.size; have := hb3.size; omega))⟩
        | true =>
          have nx := next hk
          clear next bad
          go_wp2_with (first | (go_at_call 63; refine (headOf_any a c l i _ hNo.1 hlt).mono ?_; rintro e w3 ⟨⟨ka, kc, rfl, Q⟩, hb3⟩) | (go_at_call 64; refine (kidsOk_any a c l _ _ _ ka _ kc (ndAt l i).kids _ (hNo.1.stays hb3) ((Q.ints hNo.1 hlt).stays hb3) rfl (by omega) HI.out).mono ?_; rw [hk]; rintro e w4 ⟨rfl, hb4⟩))
          go_roundw
          case rel => exact ⟨i + 1, by go_num, by omega, (hb.trans (hb3.mono hb.size)).trans (hb4.mono (by have := hb.size; have := hb3.size; omega)), nx⟩
          case measure => simp [intOf]; omega
      · have hlt' : ¬ (i : Int) < (l.length : Int) := by omega
        have HA : Hid (∀ x, x < l.length → kidsOkF l (ndAt l x).k (ndAt l x).kids = true) := fun x hx => hall.out x (by omega)
        clear hall
        obtain ⟨a2, c2, e2, _, hcp⟩ := id hNo.2
        cases e2
        go_wp2_with fail
        clear y0 y1
        go_loopw [37] (fun t37 wr => ∃ j : Nat, t37 = .int .i64 (j : Int) ∧ j ≤ p.length ∧ Below wo.heap.size wo wr ∧ Hid (∀ x, x < j → (ndAt l (prAt p x).body.toNat).k = 27)) (fun t37 _ => p.length - (intOf t37).toNat)
        case atStart => exact ⟨0, rfl, Nat.zero_le _, Below.refl _ _, fun x hx => absurd hx (Nat.not_lt_zero _)⟩
        case round =>
          rename World => wi
          obtain ⟨j, rfl, hj, hbi, hall⟩ := hrel
          have bI := bO.trans (hbi.mono (by have := bO.size; omega))
          replace z0 := cell_stays hbi z0
          replace z1 := cell_stays hbi z1
          have hNi := hNo.stays hbi
          by_cases hjl : j < p.length
          · obtain ⟨pb, off, rfl, _, _, hcl⟩ := hcp (by omega)
            obtain ⟨n0, ⟨ka, kc, n1, Ki⟩, n2⟩ := hcl j hjl
            replace n0 := cell_stays hbi n0
            replace n1 := cell_stays hbi n1
            replace n2 := cell_stays hbi n2
            have j0 : (0 : Int) ≤ (j : Int) := by omega
            have j1 : (j : Int) < (p.length : Int) := by omega
            have hbd := HO.out.body _ (prAt_mem hjl)
            obtain ⟨xn, hx⟩ := Int.eq_ofNat_of_zero_le hbd.1
            have hxl : xn < l.length := by omega
            obtain ⟨a3, c3, e3, _, hcn⟩ := id hNi.1
            cases e3
            obtain ⟨nb, noff, rfl, _, _, hcl2⟩ := hcn (by omega)
            obtain ⟨m0, _⟩ := hcl2 xn hxl
            have x0 : (0 : Int) ≤ (xn : Int) := by omega
            have x1 : (xn : Int) < (l.length : Int) := by omega
            have next : (ndAt l (prAt p j).body.toNat).k = 27 → Hid (∀ x, x < j + 1 → (ndAt l (prAt p x).body.toNat).k = 27) := fun he x hx => by
              by_cases e : x = j
              · subst e; exact he
              · exact hall.out x (by omega)
            have bad : ¬ (ndAt l (prAt p j).body.toNat).k = 27 → TOP = false := fun hne => hTOP.out.symm.trans (treeI_body hjl hne)
            rw [hx] at n2 next bad
            have en : (Int.ofNat xn).toNat = xn := rfl
            have en2 : ((xn : Int)).toNat = xn := rfl
            rw [en2] at next bad
            have bP := fun o => (Below.refl wi.heap.size wi).alloc (Nat.le_refl _) o
            have q2 : (wi.alloc (Obj.cells #[.string (prAt p j).name, .slice ka (prAt p j).ps.length kc, .int .i64 (xn : Int)] 73)).cell? ⟨wi.heap.size, 2, none⟩ = some (.int .i64 (xn : Int)) := by simp [go_sem]
            have m0' := fun o => cell_stays (bP o) m0
            have z0' := fun o => cell_stays (bP o) z0
            clear hcl2 hcn hcl hcp hall
            by_cases hk : (ndAt l xn).k = 27
            · have nx := next hk
              rw [hk] at m0 m0'
              clear next bad
              go_wp2
              go_roundw
              case rel => exact ⟨j + 1, by go_num, by omega, hbi.trans ((bP _).mono hbi.size), nx⟩
              case measure => simp [intOf]; omega
            · have e := bad hk
              subst e
              have hkb : ((ndAt l xn).k == 27) = false := beq_eq_false_iff_ne.2 hk
              clear next bad hTOP
              go_wp2
              go_ret
              exact ⟨rfl, by rw [hB]; exact bI.trans ((bP _).mono (by have := bI.size; omega))⟩
          · have hjl' : ¬ (j : Int) < (p.length : Int) := by omega
            have e : TOP = fitF l p := hTOP.out.symm.trans (treeI_good (by omega) (by omega) hO HA.out fun x hx => hall.out x (by omega))
            subst e
            clear hall hTOP
            go_wp2_with (go_at_call 65; refine (textsFit_any _ _ l p _ hNi hs).mono ?_; rintro e w5 ⟨rfl, hb5⟩)
            go_ret
            exact ⟨rfl, by rw [hB]; exact bI.trans (hb5.mono (by have := bI.size; omega))⟩

end Go.Proofs.Ytjikmpdgednlaaa
