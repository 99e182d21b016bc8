/- The specification's count of statements. -/
import Derived.Test.YtjikmpdgednlaaaZCnt
import Derived.Test.YtjikmpdgednlaaaXTree3
namespace Go.Proofs.Ytjikmpdgednlaaa
open Go.ChangeShapes Go.WideShapes Go.ChangeAt Go.RowKit
set_option linter.unusedVariables false
set_option maxRecDepth 100000
attribute [local go_sem ↓] Go.wp_at_zero Go.wp_at_succ

/-- What is counted of the nodes ahead of d. -/
def XCntAt (v u : Value) (l : List Nd) (p : List Pr) (lo hi d : Nat) : Prop := ∀ k, k < d → k < l.length → ∀ w, SetAt lo hi w v u l p →
  Calls Try.prog 57 #[.agg #[v, u], .int .i64 (k : Int)] w fun e w' => e = .returned (.int .i64 (wr (cntF l d k))) ∧ Below w.heap.size w w'

set_option maxHeartbeats 8000000 in
theorem xcnt_step {v u : Value} {l : List Nd} {p : List Pr} {lo hi d : Nat} (hn : NodesOk l) (IH : XCntAt v u l p lo hi d) : XCntAt v u l p lo hi (d + 1) := by
  intro k hkd hkl w h
  obtain ⟨a, c, b, q, rfl, rfl⟩ := h.forms
  obtain ⟨a1, c1, e1, hm1, hcc⟩ := id h.1
  cases e1
  unfold maxLen at hm1
  obtain ⟨nb, off, rfl, hlo, hhi, hcl⟩ := hcc (by omega)
  obtain ⟨n0, n1, n2, ka, kc, n3, Ki⟩ := hcl k hkl
  clear hcc hcl
  have k0 : (0 : Int) ≤ (k : Int) := by omega
  have k1 : (k : Int) < (l.length : Int) := by omega
  have bA : Below w.heap.size w (w.alloc (Obj.cells #[.slice (some ⟨nb, off, none⟩) l.length c, .slice b p.length q] 36)) := (Below.refl _ _).alloc (Nat.le_refl _) _
  have bB : Below w.heap.size w ((w.alloc (Obj.cells #[.slice (some ⟨nb, off, none⟩) l.length c, .slice b p.length q] 36)).alloc (Obj.cells #[.int .i64 (ndAt l k).k, .string (ndAt l k).s, .int .i64 (ndAt l k).n, .slice ka (ndAt l k).kids.length kc] 72)) := bA.alloc (by simp) _
  have m0 := cell_stays bA n0
  have m1 := cell_stays bA n1
  have m2 := cell_stays bA n2
  have m3 := cell_stays bA n3
  have y0 : ((w.alloc (Obj.cells #[.slice (some ⟨nb, off, none⟩) l.length c, .slice b p.length q] 36)).alloc (Obj.cells #[.int .i64 (ndAt l k).k, .string (ndAt l k).s, .int .i64 (ndAt l k).n, .slice ka (ndAt l k).kids.length kc] 72)).cell? ⟨w.heap.size, 0, none⟩ = some (.slice (some ⟨nb, off, none⟩) l.length c) := by simp [go_sem]
  have y1 : ((w.alloc (Obj.cells #[.slice (some ⟨nb, off, none⟩) l.length c, .slice b p.length q] 36)).alloc (Obj.cells #[.int .i64 (ndAt l k).k, .string (ndAt l k).s, .int .i64 (ndAt l k).n, .slice ka (ndAt l k).kids.length kc] 72)).cell? ⟨w.heap.size, 1, none⟩ = some (.slice b p.length q) := by simp [go_sem]
  have z0 : ((w.alloc (Obj.cells #[.slice (some ⟨nb, off, none⟩) l.length c, .slice b p.length q] 36)).alloc (Obj.cells #[.int .i64 (ndAt l k).k, .string (ndAt l k).s, .int .i64 (ndAt l k).n, .slice ka (ndAt l k).kids.length kc] 72)).cell? ⟨w.heap.size + 1, 0, none⟩ = some (.int .i64 (ndAt l k).k) := by simp [go_sem]
  have z3 : ((w.alloc (Obj.cells #[.slice (some ⟨nb, off, none⟩) l.length c, .slice b p.length q] 36)).alloc (Obj.cells #[.int .i64 (ndAt l k).k, .string (ndAt l k).s, .int .i64 (ndAt l k).n, .slice ka (ndAt l k).kids.length kc] 72)).cell? ⟨w.heap.size + 1, 3, none⟩ = some (.slice ka (ndAt l k).kids.length kc) := by simp [go_sem]
  have hS := h.stays bB
  have hKi := Ki.stays bB
  have hkm : (ndAt l k).kids.length ≤ 9223372036854775807 := by obtain ⟨_, _, _, hm, _⟩ := Ki; unfold maxLen at hm; omega
  obtain ⟨TOP, hTOP⟩ : ∃ r, wr (cntF l (d + 1) k) = r := ⟨_, rfl⟩
  rw [hTOP]
  rw [cntF_succ] at hTOP
  obtain ⟨s0, hs0⟩ : ∃ s : Int, s = if sortI (ndAt l k).k = 1 then 1 else 0 := ⟨_, rfl⟩
  rw [← hs0] at hTOP
  change Hid _ at hTOP
  have HK : Hid (∀ j, j < (ndAt l k).kids.length → ∃ x : Nat, iAt (ndAt l k).kids j = (x : Int) ∧ x < k ∧ x < l.length) := fun j hj => by
    obtain ⟨x, h1, h2, h3, _⟩ := hn.kid hkl hj
    exact ⟨x, h1, h2, h3⟩
  have hs0' : wr s0 = s0 := wr_id (by rw [hs0]; split <;> omega) (by rw [hs0]; split <;> omega)
  have HI : Hid (XCntAt (.slice (some ⟨nb, off, none⟩) l.length c) (.slice b p.length q) l p lo hi d) := IH
  by_cases hso : sortI (ndAt l k).k = 1
  · rw [if_pos hso] at hs0
    subst hs0
    change Hid _ at hs0'
    go_enter Try.func57, Try.ntmps57
    go_wp2_with (go_at_call 55; refine (l5sort_any _ _).mono ?_; rw [hso]; rintro e w2 ⟨rfl, rfl⟩)
    clear m0 m1 m2 m3 n0 n1 n2 n3
    generalize hwB : ((w.alloc (Obj.cells #[.slice (some ⟨nb, off, none⟩) l.length c, .slice b p.length q] 36)).alloc (Obj.cells #[.int .i64 (ndAt l k).k, .string (ndAt l k).s, .int .i64 (ndAt l k).n, .slice ka (ndAt l k).kids.length kc] 72)) = wB at *
    generalize hB : w.heap.size = B at *
    go_loopw [6, 7] (fun t6 t7 wr' => ∃ (j : Nat) (z : Int), t6 = .int .i64 z ∧ t7 = .int .i64 (j : Int) ∧ j ≤ (ndAt l k).kids.length ∧ Hid (z = wr (1 + cntS l d ((ndAt l k).kids.take j))) ∧ Below wB.heap.size wB wr') (fun _ t7 _ => (ndAt l k).kids.length - (intOf t7).toNat)
    case atStart => exact ⟨0, _, rfl, rfl, Nat.zero_le _, by show _ = wr (1 + cntS l d []); rw [show cntS l d [] = 0 from rfl, Int.add_zero, hs0'.out], Below.refl _ _⟩
    case round =>
      rename World => wo
      obtain ⟨j, z, rfl, rfl, hj, hz, hb⟩ := hrel
      have bO := bB.trans (hb.mono (by have := bB.size; omega))
      by_cases hjl : j < (ndAt l k).kids.length
      · obtain ⟨x, hx, hxk, hxl⟩ := HK.out j hjl
        obtain ⟨ka', kc', e2, hm2, hkk⟩ := id hKi
        cases e2
        obtain ⟨kb, koff, rfl, _, _, hkc⟩ := hkk (by omega)
        have kj := cell_regrown (cell_stays hb (hkc j hjl))
        rw [hx] at kj
        have q0 := cell_regrown (cell_stays hb y0)
        have q1 := cell_regrown (cell_stays hb y1)
        have q3 := cell_regrown (cell_stays hb z3)
        have r3 := cell_stays hb z3
        have hSo := hS.stays hb
        have j0 : (0 : Int) ≤ (j : Int) := by omega
        have j1 : (j : Int) < ((ndAt l k).kids.length : Int) := by omega
        have hz2 : Hid (wr (z + wr (cntF l d x)) = wr (1 + cntS l d ((ndAt l k).kids.take (j + 1)))) := by
          show _ = _
          rw [cntS_take hjl, hz.out, hx, wr_add, wr_add', ← Int.add_assoc]
          rfl
        obtain ⟨y, hy⟩ : ∃ y, wr (cntF l d x) = y := ⟨_, rfl⟩
        have hC : ∀ w', SetAt lo hi w' (.slice (some ⟨nb, off, none⟩) l.length c) (.slice b p.length q) l p → Calls Try.prog 57 #[.agg #[.slice (some ⟨nb, off, none⟩) l.length c, .slice b p.length q], .int .i64 (x : Int)] w' fun e w'' => e = .returned (.int .i64 y) ∧ Below w'.heap.size w' w'' := fun w' hw' => hy ▸ HI.out x (by omega) hxl w' hw'
        rw [hy] at hz2
        clear hkc hkk y0 y1 hz hy hx z3 hs0'
        go_wp2_with fail
        refine wp_region_quiet_below (by kernel_rfl) (by kernel_rfl) ?_
        repeat (go_big_quiet_step ((go_at_call 57; exact Calls.regrown_of (hC _ (hSo.stays (below_regrown _ _ _))))))
        refine wpQuiet_nil ?_
        intro w8 hw8
        obtain ⟨⟨d8, o8⟩, hw8'⟩ := hw8
        have hb8 : Below _ _ w8 := hw8' ▸ below_regrown _ d8 o8
        clear hw8'
        go_wp2
        go_roundw
        case rel => exact ⟨j + 1, _, rfl, by go_num, by omega, (wr_64 _).trans hz2.out, hb.trans (hb8.mono hb.size)⟩
        case measure => simp [intOf]; omega
      · have hjl' : ¬ (j : Int) < ((ndAt l k).kids.length : Int) := by omega
        have e : z = TOP := by
          have h1 := hz.out
          rw [show j = (ndAt l k).kids.length by omega, kids_take_all] at h1
          exact h1.trans hTOP.out
        have r3 := cell_stays hb z3
        subst e
        clear hz hTOP
        go_wp2
        go_ret
        exact ⟨rfl, by first | exact bO | (rw [hB]; exact bO)⟩
  · rw [if_neg hso] at hs0
    subst hs0
    have hsb : (sortI (ndAt l k).k == 1) = false := beq_eq_false_iff_ne.2 hso
    change Hid _ at hs0'
    go_enter Try.func57, Try.ntmps57
    go_wp2_with (go_at_call 55; refine (l5sort_any _ _).mono ?_; rintro e w2 ⟨rfl, rfl⟩)
    clear hsb
    clear m0 m1 m2 m3 n0 n1 n2 n3
    generalize hwB : ((w.alloc (Obj.cells #[.slice (some ⟨nb, off, none⟩) l.length c, .slice b p.length q] 36)).alloc (Obj.cells #[.int .i64 (ndAt l k).k, .string (ndAt l k).s, .int .i64 (ndAt l k).n, .slice ka (ndAt l k).kids.length kc] 72)) = wB at *
    generalize hB : w.heap.size = B at *
    go_loopw [6, 7] (fun t6 t7 wr' => ∃ (j : Nat) (z : Int), t6 = .int .i64 z ∧ t7 = .int .i64 (j : Int) ∧ j ≤ (ndAt l k).kids.length ∧ Hid (z = wr (0 + cntS l d ((ndAt l k).kids.take j))) ∧ Below wB.heap.size wB wr') (fun _ t7 _ => (ndAt l k).kids.length - (intOf t7).toNat)
    case atStart => exact ⟨0, _, rfl, rfl, Nat.zero_le _, by show _ = wr (0 + cntS l d []); rw [show cntS l d [] = 0 from rfl, Int.add_zero, hs0'.out], Below.refl _ _⟩
    case round =>
      rename World => wo
      obtain ⟨j, z, rfl, rfl, hj, hz, hb⟩ := hrel
      have bO := bB.trans (hb.mono (by have := bB.size; omega))
      by_cases hjl : j < (ndAt l k).kids.length
      · obtain ⟨x, hx, hxk, hxl⟩ := HK.out j hjl
        obtain ⟨ka', kc', e2, hm2, hkk⟩ := id hKi
        cases e2
        obtain ⟨kb, koff, rfl, _, _, hkc⟩ := hkk (by omega)
        have kj := cell_regrown (cell_stays hb (hkc j hjl))
        rw [hx] at kj
        have q0 := cell_regrown (cell_stays hb y0)
        have q1 := cell_regrown (cell_stays hb y1)
        have q3 := cell_regrown (cell_stays hb z3)
        have r3 := cell_stays hb z3
        have hSo := hS.stays hb
        have j0 : (0 : Int) ≤ (j : Int) := by omega
        have j1 : (j : Int) < ((ndAt l k).kids.length : Int) := by omega
        have hz2 : Hid (wr (z + wr (cntF l d x)) = wr (0 + cntS l d ((ndAt l k).kids.take (j + 1)))) := by
          show _ = _
          rw [cntS_take hjl, hz.out, hx, wr_add, wr_add', ← Int.add_assoc]
          rfl
        obtain ⟨y, hy⟩ : ∃ y, wr (cntF l d x) = y := ⟨_, rfl⟩
        have hC : ∀ w', SetAt lo hi w' (.slice (some ⟨nb, off, none⟩) l.length c) (.slice b p.length q) l p → Calls Try.prog 57 #[.agg #[.slice (some ⟨nb, off, none⟩) l.length c, .slice b p.length q], .int .i64 (x : Int)] w' fun e w'' => e = .returned (.int .i64 y) ∧ Below w'.heap.size w' w'' := fun w' hw' => hy ▸ HI.out x (by omega) hxl w' hw'
        rw [hy] at hz2
        clear hkc hkk y0 y1 hz hy hx z3 hs0'
        go_wp2_with fail
        refine wp_region_quiet_below (by kernel_rfl) (by kernel_rfl) ?_
        repeat (go_big_quiet_step ((go_at_call 57; exact Calls.regrown_of (hC _ (hSo.stays (below_regrown _ _ _))))))
        refine wpQuiet_nil ?_
        intro w8 hw8
        obtain ⟨⟨d8, o8⟩, hw8'⟩ := hw8
        have hb8 : Below _ _ w8 := hw8' ▸ below_regrown _ d8 o8
        clear hw8'
        go_wp2
        go_roundw
        case rel => exact ⟨j + 1, _, rfl, by go_num, by omega, (wr_64 _).trans hz2.out, hb.trans (hb8.mono hb.size)⟩
        case measure => simp [intOf]; omega
      · have hjl' : ¬ (j : Int) < ((ndAt l k).kids.length : Int) := by omega
        have e : z = TOP := by
          have h1 := hz.out
          rw [show j = (ndAt l k).kids.length by omega, kids_take_all] at h1
          exact h1.trans hTOP.out
        have r3 := cell_stays hb z3
        subst e
        clear hz hTOP
        go_wp2
        go_ret
        exact ⟨rfl, by first | exact bO | (rw [hB]; exact bO)⟩

theorem xcnt_all {v u : Value} {l : List Nd} {p : List Pr} {lo hi : Nat} (hn : NodesOk l) : ∀ d, XCntAt v u l p lo hi d
  | 0 => fun k hk => absurd hk (Nat.not_lt_zero _)
  | d + 1 => xcnt_step hn (xcnt_all hn d)

end Go.Proofs.Ytjikmpdgednlaaa
