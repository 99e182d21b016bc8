/- The specification's bound of steps. -/
import Derived.Test.YtjikmpdgednlaaaZStp
namespace Go.Proofs.Ytjikmpdgednlaaa
open Go.ChangeShapes Go.WideShapes Go.ChangeAt Go.RowKit
set_option linter.unusedVariables false
set_option maxRecDepth 100000
attribute [local go_sem ↓] Go.wp_at_zero Go.wp_at_succ

/-- The bounds of the nodes ahead of d. -/
def XStpAt (v u : Value) (l : List Nd) (p : List Pr) (lo hi d : Nat) : Prop := ∀ k, k < d → k < l.length → ∀ w, SetAt lo hi w v u l p →
  Calls Try.prog 59 #[.agg #[v, u], .int .i64 (k : Int)] w fun e w' => e = .returned (.int .i64 (stpF l d k)) ∧ Below w.heap.size w w'

set_option maxHeartbeats 16000000 in
theorem xstp_step {v u : Value} {l : List Nd} {p : List Pr} {lo hi d : Nat} (hn : NodesOk l) (ht : TimesOk l) (IH : XStpAt v u l p lo hi d) : XStpAt v u l p lo hi (d + 1) := by
  intro k hkd hkl w h
  obtain ⟨a, c, b, q, rfl, rfl⟩ := h.forms
  obtain ⟨a1, c1, e1, hm1, hcc⟩ := id h.1
  cases e1
  unfold maxLen at hm1
  obtain ⟨nb, off, rfl, hlo, hhi, hcl⟩ := hcc (by omega)
  obtain ⟨n0, n1, n2, ka, kc, n3, Ki⟩ := hcl k hkl
  clear hcc hcl
  have HK : Hid (∀ j, j < (ndAt l k).kids.length → ∃ x : Nat, iAt (ndAt l k).kids j = (x : Int) ∧ x < k ∧ x < l.length) := fun j hj => by
    obtain ⟨x, h1, h2, h3, _⟩ := hn.kid hkl hj
    exact ⟨x, h1, h2, h3⟩
  have HI : Hid (XStpAt (.slice (some ⟨nb, off, none⟩) l.length c) (.slice b p.length q) l p lo hi d) := IH
  have hTl := (hn k hkl).lo
  have hTh := (hn k hkl).hi
  have hT27 := @stpF_block l d k
  have hT23 := @stpF_if l d k
  have hT24 := @stpF_for l d k
  have hTe := @stpF_else l d k
  have hTt := ht k hkl
  obtain ⟨⟨K, s, N, kids⟩, hnd⟩ : ∃ x, ndAt l k = x := ⟨_, rfl⟩
  simp only [hnd] at n0 n1 n2 n3 Ki HK hTl hTh hT27 hT23 hT24 hTe hTt
  clear hnd
  have k0 : (0 : Int) ≤ (k : Int) := by omega
  have k1 : (k : Int) < (l.length : Int) := by omega
  have bA : Below w.heap.size w (w.alloc (Obj.cells #[.slice (some ⟨nb, off, none⟩) l.length c, .slice b p.length q] 36)) := (Below.refl _ _).alloc (Nat.le_refl _) _
  have bB : Below w.heap.size w ((w.alloc (Obj.cells #[.slice (some ⟨nb, off, none⟩) l.length c, .slice b p.length q] 36)).alloc (Obj.cells #[.int .i64 K, .string s, .int .i64 N, .slice ka kids.length kc] 72)) := bA.alloc (by simp) _
  have m0 := cell_stays bA n0
  have m1 := cell_stays bA n1
  have m2 := cell_stays bA n2
  have m3 := cell_stays bA n3
  have y0 : ((w.alloc (Obj.cells #[.slice (some ⟨nb, off, none⟩) l.length c, .slice b p.length q] 36)).alloc (Obj.cells #[.int .i64 K, .string s, .int .i64 N, .slice ka kids.length kc] 72)).cell? ⟨w.heap.size, 0, none⟩ = some (.slice (some ⟨nb, off, none⟩) l.length c) := by simp [go_sem]
  have y1 : ((w.alloc (Obj.cells #[.slice (some ⟨nb, off, none⟩) l.length c, .slice b p.length q] 36)).alloc (Obj.cells #[.int .i64 K, .string s, .int .i64 N, .slice ka kids.length kc] 72)).cell? ⟨w.heap.size, 1, none⟩ = some (.slice b p.length q) := by simp [go_sem]
  have z0 : ((w.alloc (Obj.cells #[.slice (some ⟨nb, off, none⟩) l.length c, .slice b p.length q] 36)).alloc (Obj.cells #[.int .i64 K, .string s, .int .i64 N, .slice ka kids.length kc] 72)).cell? ⟨w.heap.size + 1, 0, none⟩ = some (.int .i64 K) := by simp [go_sem]
  have z2 : ((w.alloc (Obj.cells #[.slice (some ⟨nb, off, none⟩) l.length c, .slice b p.length q] 36)).alloc (Obj.cells #[.int .i64 K, .string s, .int .i64 N, .slice ka kids.length kc] 72)).cell? ⟨w.heap.size + 1, 2, none⟩ = some (.int .i64 N) := by simp [go_sem]
  have z3 : ((w.alloc (Obj.cells #[.slice (some ⟨nb, off, none⟩) l.length c, .slice b p.length q] 36)).alloc (Obj.cells #[.int .i64 K, .string s, .int .i64 N, .slice ka kids.length kc] 72)).cell? ⟨w.heap.size + 1, 3, none⟩ = some (.slice ka kids.length kc) := by simp [go_sem]
  have hS := h.stays bB
  have hKi := Ki.stays bB
  have hkm : kids.length ≤ 9223372036854775807 := by obtain ⟨_, _, _, hm, _⟩ := Ki; unfold maxLen at hm; omega
  obtain ⟨TOP, hTOP⟩ : ∃ r, stpF l (d + 1) k = r := ⟨_, rfl⟩
  rw [hTOP] at hT27 hT23 hT24 hTe ⊢
  clear hTOP
  by_cases h27 : K = 27
  · subst h27
    have hTOP : Hid (TOP = capI (stpS l d kids)) := hT27 rfl
    have hkn : kids.length ≤ 4000 := by
      have h2 : (kids.length : Int) ≤ 4000 := hTh
      omega
    go_enter Try.func59, Try.ntmps59
    go_wp2_with fail
    clear m0 m1 m2 m3 n0 n1 n2 n3
    generalize hwB : ((w.alloc (Obj.cells #[.slice (some ⟨nb, off, none⟩) l.length c, .slice b p.length q] 36)).alloc (Obj.cells #[.int .i64 27, .string s, .int .i64 N, .slice ka kids.length kc] 72)) = wB at *
    generalize hB : w.heap.size = B at *
    go_loopw [6, 7] (fun t6 t7 wr' => ∃ (j : Nat) (z : Int), t6 = .int .i64 z ∧ t7 = .int .i64 (j : Int) ∧ j ≤ kids.length ∧ Hid (z = capI (stpS l d (kids.take j))) ∧ (0 ≤ z ∧ z ≤ 1000000) ∧ Below wB.heap.size wB wr') (fun _ t7 _ => kids.length - (intOf t7).toNat)
    case atStart => exact ⟨0, _, rfl, rfl, Nat.zero_le _, rfl, ⟨by decide, by decide⟩, Below.refl _ _⟩
    case round =>
      rename World => wo
      obtain ⟨j, z, rfl, rfl, hj, hz, ⟨zl, zh⟩, hb⟩ := hrel
      have bO := bB.trans (hb.mono (by have := bB.size; omega))
      by_cases hjl : j < kids.length
      · obtain ⟨x, hx, hxk, hxl⟩ := HK.out j hjl
        obtain ⟨ka', kc', e2, hm2, hkk⟩ := id hKi
        cases e2
        obtain ⟨kb, koff, rfl, _, _, hkc⟩ := hkk (by omega)
        have kj := cell_regrown (cell_stays hb (hkc j hjl))
        rw [hx] at kj
        have q0 := cell_regrown (cell_stays hb y0)
        have q1 := cell_regrown (cell_stays hb y1)
        have q3 := cell_regrown (cell_stays hb z3)
        have r3 := cell_stays hb z3
        have hSo := hS.stays hb
        have j0 : (0 : Int) ≤ (j : Int) := by omega
        have j1 : (j : Int) < (kids.length : Int) := by omega
        have hy0 := stpF_nn hn ht d x hxl
        have hz2 : Hid (capI (z + stpF l d x) = capI (stpS l d (kids.take (j + 1)))) := by
          show _ = _
          rw [stpS_take hjl, hz.out, hx, capI_add hy0.1]
          rfl
        obtain ⟨y, hy⟩ : ∃ y, stpF l d x = y := ⟨_, rfl⟩
        have hC : ∀ w', SetAt lo hi w' (.slice (some ⟨nb, off, none⟩) l.length c) (.slice b p.length q) l p → Calls Try.prog 59 #[.agg #[.slice (some ⟨nb, off, none⟩) l.length c, .slice b p.length q], .int .i64 (x : Int)] w' fun e w'' => e = .returned (.int .i64 y) ∧ Below w'.heap.size w' w'' := fun w' hw' => hy ▸ HI.out x (by omega) hxl w' hw'
        rw [hy] at hz2 hy0
        obtain ⟨yl, yh⟩ := hy0
        have hcb : 0 ≤ capI (z + y) ∧ capI (z + y) ≤ 1000000 := ⟨capI_nn (by omega), capI_le _⟩
        clear hkc hkk y0 y1 hz hy hx z3
        go_wp2_with fail
        refine wp_region_quiet_below (by kernel_rfl) (by kernel_rfl) ?_
        repeat (go_big_quiet_step (first | (go_at_call 59; exact Calls.regrown_of (hC _ (hSo.stays (below_regrown _ _ _)))) | (go_at_call 58; exact Calls.regrown_of ((l5cap_any _ _).mono fun e w' hh => ⟨hh.1, hh.2 ▸ Below.refl _ _⟩))))
        refine wpQuiet_nil ?_
        intro w8 hw8
        obtain ⟨⟨d8, o8⟩, hw8'⟩ := hw8
        have hb8 : Below _ _ w8 := hw8' ▸ below_regrown _ d8 o8
        clear hw8'
        go_wp2
        go_roundw
        case rel => exact ⟨j + 1, _, rfl, by go_num, by omega, hz2, hcb, hb.trans (hb8.mono hb.size)⟩
        case measure => simp [intOf]; omega
      · have hjl' : ¬ (j : Int) < (kids.length : Int) := by omega
        have e : z = TOP := by
          have h1 := hz.out
          rw [show j = kids.length by omega, kids_take_all] at h1
          exact h1.trans hTOP.out.symm
        have r3 := cell_stays hb z3
        subst e
        clear hz hTOP
        go_wp2
        go_ret
        exact ⟨rfl, by first | exact bO | (rw [hB]; exact bO)⟩
  by_cases h23 : K = 23
  · subst h23
    have hTOP := hT23 rfl
    have hlo : 2 ≤ kids.length ∧ kids.length ≤ 3 := by
      have h3 : (2 : Int) ≤ (kids.length : Int) := hTl
      have h4 : (kids.length : Int) ≤ 3 := hTh
      omega
    obtain ⟨x, hx, hxk, hxl⟩ := HK.out 1 (by omega)
    obtain ⟨ka', kc', e2, hm2, hkk⟩ := id hKi
    cases e2
    obtain ⟨kb, koff, rfl, _, _, hkc⟩ := hkk (by omega)
    have kj := hkc 1 (by omega)
    rw [hx] at kj
    have hy0 := stpF_nn hn ht d x hxl
    rw [hx] at hTOP
    have ex : ((x : Int)).toNat = x := rfl
    rw [ex] at hTOP
    obtain ⟨y, hy⟩ : ∃ y, stpF l d x = y := ⟨_, rfl⟩
    have hC : ∀ w', SetAt lo hi w' (.slice (some ⟨nb, off, none⟩) l.length c) (.slice b p.length q) l p → Calls Try.prog 59 #[.agg #[.slice (some ⟨nb, off, none⟩) l.length c, .slice b p.length q], .int .i64 (x : Int)] w' fun e w'' => e = .returned (.int .i64 y) ∧ Below w'.heap.size w' w'' := fun w' hw' => hy ▸ HI.out x (by omega) hxl w' hw'
    rw [hy] at hTOP hy0
    obtain ⟨yl, yh⟩ := hy0
    clear hy hx
    have i1 : (1 : Int) < (kids.length : Int) := by omega
    by_cases hl3 : kids.length = 3
    · obtain ⟨x', hx', hxk', hxl'⟩ := HK.out 2 (by omega)
      have kj2 := hkc 2 (by omega)
      rw [hx'] at kj2
      have hy0 := stpF_nn hn ht d x' hxl'
      rw [if_pos hl3, hx'] at hTOP
      have ex : ((x' : Int)).toNat = x' := rfl
      rw [ex] at hTOP
      obtain ⟨y', hy⟩ : ∃ y, stpF l d x' = y := ⟨_, rfl⟩
      have hC2 : ∀ w', SetAt lo hi w' (.slice (some ⟨nb, off, none⟩) l.length c) (.slice b p.length q) l p → Calls Try.prog 59 #[.agg #[.slice (some ⟨nb, off, none⟩) l.length c, .slice b p.length q], .int .i64 (x' : Int)] w' fun e w'' => e = .returned (.int .i64 y') ∧ Below w'.heap.size w' w'' := fun w' hw' => hy ▸ HI.out x' (by omega) hxl' w' hw'
      rw [hy] at hTOP hy0
      obtain ⟨yl', yh'⟩ := hy0
      change Hid _ at hTOP
      clear hy hx' hkc hkk hT27 hT23 hT24 hTe hTt HK
      have L3 : Hid (kids.length = 3) := hl3
      rw [hl3] at n3 m3 z3 y0 y1 z0 z2 bB hS kj kj2 i1
      clear hKi Ki hm2 hkm hlo hTl hTh
      generalize kids.length = LL at *
      have i2 : (2 : Int) < (3 : Int) := by omega
      go_enter Try.func59, Try.ntmps59
      go_wp2_with fail
      clear m0 m1 m2 m3 n0 n1 n2 n3
      generalize hwB : ((w.alloc (Obj.cells #[.slice (some ⟨nb, off, none⟩) l.length c, .slice b p.length q] 36)).alloc (Obj.cells #[.int .i64 23, .string s, .int .i64 N, .slice (some ⟨kb, koff, none⟩) 3 kc] 72)) = wB at *
      generalize hB : w.heap.size = B at *
      have g0 := cell_regrown y0
      have g1 := cell_regrown y1
      have g3 := cell_regrown z3
      have gk := cell_regrown kj
      refine wp_region_quiet_below (by kernel_rfl) (by kernel_rfl) ?_
      repeat (go_big_quiet_step ((go_at_call 59; exact Calls.regrown_of (hC _ (hS.stays (below_regrown _ _ _))))))
      refine wpQuiet_nil ?_
      intro w8 hw8
      obtain ⟨⟨d8, o8⟩, hw8'⟩ := hw8
      have hb8 : Below _ _ w8 := hw8' ▸ below_regrown _ d8 o8
      clear hw8'
      have f0 := cell_regrown (cell_stays hb8 y0)
      have f1 := cell_regrown (cell_stays hb8 y1)
      have f3 := cell_regrown (cell_stays hb8 z3)
      have fk := cell_regrown (cell_stays hb8 kj2)
      have l3 := cell_stays hb8 z3
      have hS8 := hS.stays hb8
      have bO := bB.trans (hb8.mono (by have := bB.size; omega))
      clear g0 g1 g3 gk
      go_wp2_with fail
      refine wp_region_quiet_below (by kernel_rfl) (by kernel_rfl) ?_
      repeat (go_big_quiet_step ((go_at_call 59; exact Calls.regrown_of (hC2 _ (hS8.stays (below_regrown _ _ _))))))
      refine wpQuiet_nil ?_
      intro w9 hw8
      obtain ⟨⟨d8, o8⟩, hw8'⟩ := hw8
      have hb9 : Below _ _ w9 := hw8' ▸ below_regrown _ d8 o8
      clear hw8'
      have bO2 := bO.trans (hb9.mono (by have := bO.size; omega))
      by_cases hgt : y < y'
      · have e : TOP = capI (1 + y') := by rw [hTOP.out]; congr 1; omega
        subst e
        clear hTOP
        go_wp2_with (go_at_call 58; refine (l5cap_any _ _).mono ?_; rintro e w5 ⟨rfl, rfl⟩)
        go_ret
        exact ⟨rfl, by first | exact bO2 | (rw [hB]; exact bO2)⟩
      · have e : TOP = capI (1 + y) := by rw [hTOP.out]; congr 1; omega
        subst e
        clear hTOP
        go_wp2_with (go_at_call 58; refine (l5cap_any _ _).mono ?_; rintro e w5 ⟨rfl, rfl⟩)
        go_ret
        exact ⟨rfl, by first | exact bO2 | (rw [hB]; exact bO2)⟩
    · have hl2 : kids.length = 2 := by omega
      rw [if_neg hl3] at hTOP
      have e : TOP = capI (1 + y) := by rw [hTOP]; congr 1; omega
      subst e
      clear hkc hkk hTOP hT27 hT23 hT24 hTe hTt HK
      rw [hl2] at n3 m3 z3 y0 y1 z0 z2 bB hS kj i1
      clear hKi Ki hm2 hkm hlo hTl hTh
      go_enter Try.func59, Try.ntmps59
      go_wp2_with fail
      clear m0 m1 m2 m3 n0 n1 n2 n3
      generalize hwB : ((w.alloc (Obj.cells #[.slice (some ⟨nb, off, none⟩) l.length c, .slice b p.length q] 36)).alloc (Obj.cells #[.int .i64 23, .string s, .int .i64 N, .slice (some ⟨kb, koff, none⟩) 2 kc] 72)) = wB at *
      generalize hB : w.heap.size = B at *
      have g0 := cell_regrown y0
      have g1 := cell_regrown y1
      have g3 := cell_regrown z3
      have gk := cell_regrown kj
      refine wp_region_quiet_below (by kernel_rfl) (by kernel_rfl) ?_
      repeat (go_big_quiet_step ((go_at_call 59; exact Calls.regrown_of (hC _ (hS.stays (below_regrown _ _ _))))))
      refine wpQuiet_nil ?_
      intro w8 hw8
      obtain ⟨⟨d8, o8⟩, hw8'⟩ := hw8
      have hb8 : Below _ _ w8 := hw8' ▸ below_regrown _ d8 o8
      clear hw8'
      have l3 := cell_stays hb8 z3
      have bO := bB.trans (hb8.mono (by have := bB.size; omega))
      go_wp2_with (go_at_call 58; refine (l5cap_any _ _).mono ?_; rintro e w5 ⟨rfl, rfl⟩)
      go_ret
      exact ⟨rfl, by first | exact bO | (rw [hB]; exact bO)⟩
  by_cases h24 : K = 24
  · subst h24
    have hTOP := hT24 rfl
    have hlo : kids.length = 1 := by
      have h3 : (1 : Int) ≤ (kids.length : Int) := hTl
      have h4 : (kids.length : Int) ≤ 1 := hTh
      omega
    obtain ⟨x, hx, hxk, hxl⟩ := HK.out 0 (by omega)
    obtain ⟨ka', kc', e2, hm2, hkk⟩ := id hKi
    cases e2
    obtain ⟨kb, koff, rfl, _, _, hkc⟩ := hkk (by omega)
    have kj := hkc 0 (by omega)
    rw [hx] at kj
    have hy0 := stpF_nn hn ht d x hxl
    rw [hx] at hTOP
    have ex : ((x : Int)).toNat = x := rfl
    rw [ex] at hTOP
    obtain ⟨y, hy⟩ : ∃ y, stpF l d x = y := ⟨_, rfl⟩
    have hC : ∀ w', SetAt lo hi w' (.slice (some ⟨nb, off, none⟩) l.length c) (.slice b p.length q) l p → Calls Try.prog 59 #[.agg #[.slice (some ⟨nb, off, none⟩) l.length c, .slice b p.length q], .int .i64 (x : Int)] w' fun e w'' => e = .returned (.int .i64 y) ∧ Below w'.heap.size w' w'' := fun w' hw' => hy ▸ HI.out x (by omega) hxl w' hw'
    rw [hy] at hTOP hy0
    obtain ⟨yl, yh⟩ := hy0
    clear hy hx
    rw [Nat.add_zero] at kj
    obtain ⟨t1, t4⟩ := hTt rfl
    change Hid _ at hTOP
    clear hkc hkk hT27 hT23 hT24 hTe hTt HK
    have i1 : (0 : Int) < (1 : Int) := by omega
    rw [hlo] at n3 m3 z3 y0 y1 z0 z2 bB hS kj
    clear hKi Ki hm2 hkm hlo hTl hTh
    go_enter Try.func59, Try.ntmps59
    go_wp2_with fail
    clear m0 m1 m2 m3 n0 n1 n2 n3
    generalize hwB : ((w.alloc (Obj.cells #[.slice (some ⟨nb, off, none⟩) l.length c, .slice b p.length q] 36)).alloc (Obj.cells #[.int .i64 24, .string s, .int .i64 N, .slice (some ⟨kb, koff, none⟩) 1 kc] 72)) = wB at *
    generalize hB : w.heap.size = B at *
    have g0 := cell_regrown y0
    have g1 := cell_regrown y1
    have g3 := cell_regrown z3
    have gk := cell_regrown kj
    refine wp_region_quiet_below (by kernel_rfl) (by kernel_rfl) ?_
    repeat (go_big_quiet_step ((go_at_call 59; exact Calls.regrown_of (hC _ (hS.stays (below_regrown _ _ _))))))
    refine wpQuiet_nil ?_
    intro w8 hw8
    obtain ⟨⟨d8, o8⟩, hw8'⟩ := hw8
    have hb8 : Below _ _ w8 := hw8' ▸ below_regrown _ d8 o8
    clear hw8'
    have bO := bB.trans (hb8.mono (by have := bB.size; omega))
    replace z2 := cell_stays hb8 z2
    go_wp2_with fail
    go_loopw [10, 12] (fun t10 t12 wr' => ∃ (j : Nat) (z : Int), t10 = .int .i64 z ∧ t12 = .int .i64 (j : Int) ∧ (j : Int) ≤ N ∧ Hid (z = capI (2 + (j : Int) * (1 + y))) ∧ (0 ≤ z ∧ z ≤ 1000000) ∧ wr' = w8) (fun _ t12 _ => N.toNat - (intOf t12).toNat)
    case atStart => exact ⟨0, _, rfl, rfl, by show (0 : Int) ≤ N; omega, by show (2 : Int) = capI (2 + 0 * (1 + y)); rw [Int.zero_mul]; rfl, ⟨by decide, by decide⟩, rfl⟩
    case round =>
      rename World => wo
      obtain ⟨j, z, rfl, rfl, hj, hz, ⟨zl, zh⟩, rfl⟩ := hrel
      have hj4 : j = 0 ∨ j = 1 ∨ j = 2 ∨ j = 3 ∨ j = 4 := by omega
      by_cases hjl : (j : Int) < N
      · by_cases hzl : z < 1000000
        · have hz2 : Hid (capI (z + (1 + y)) = capI (2 + ((j + 1 : Nat) : Int) * (1 + y))) := by
            have h0 := hz.out
            show _ = _
            rw [h0, capI_add (by omega)]
            congr 1
            rw [Int.natCast_add, Int.add_mul]
            omega
          have hcb : 0 ≤ capI (z + (1 + y)) ∧ capI (z + (1 + y)) ≤ 1000000 := ⟨capI_nn (by omega), capI_le _⟩
          clear hz
          go_wp2_with (go_at_call 58; refine (l5cap_any _ _).mono ?_; rintro e w5 ⟨rfl, rfl⟩)
          go_roundw
          case rel => exact ⟨j + 1, _, rfl, by go_num, by omega, hz2, hcb, trivial⟩
          case measure => simp [intOf]; omega
        · have e : z = TOP := by
            have h0 := hz.out
            rw [hTOP.out]
            have hN4 : N = 1 ∨ N = 2 ∨ N = 3 ∨ N = 4 := by omega
            unfold capI at h0 ⊢
            rcases hj4 with rfl | rfl | rfl | rfl | rfl <;> rcases hN4 with rfl | rfl | rfl | rfl <;> (split at h0 <;> split <;> omega)
          subst e
          clear hz hTOP hj4
          go_wp2
          go_ret
          exact ⟨rfl, by first | exact bO | (rw [hB]; exact bO)⟩
      · have e : z = TOP := by
          have h0 := hz.out
          rw [h0, hTOP.out, show (j : Int) = N by omega]
        subst e
        clear hz hTOP hj4
        go_wp2
        go_ret
        exact ⟨rfl, by first | exact bO | (rw [hB]; exact bO)⟩
  have hTOP := hTe h27 h23 h24
  subst hTOP
  have hk1 : (K == 27) = false := beq_eq_false_iff_ne.2 h27
  have hk2 : (K == 23) = false := beq_eq_false_iff_ne.2 h23
  have hk3 : (K == 24) = false := beq_eq_false_iff_ne.2 h24
  go_enter Try.func59, Try.ntmps59
  go_wp2
  go_ret
  exact ⟨rfl, bB⟩

theorem xstp_all {v u : Value} {l : List Nd} {p : List Pr} {lo hi : Nat} (hn : NodesOk l) (ht : TimesOk l) : ∀ d, XStpAt v u l p lo hi d
  | 0 => fun k hk => absurd hk (Nat.not_lt_zero _)
  | d + 1 => xstp_step hn ht (xstp_all hn ht d)

end Go.Proofs.Ytjikmpdgednlaaa
