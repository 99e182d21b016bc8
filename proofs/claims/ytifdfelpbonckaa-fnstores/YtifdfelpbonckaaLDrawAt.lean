/- spec.l1hours, spec.DrawReadAt, spec.DrawPrune: what is drawn is some store, a key, an hour. -/
import Derived.Test.YtifdfelpbonckaaLBent0
namespace Go.Proofs.Ytifdfelpbonckaa
open Go.ChangeShapes Go.WideShapes Go.ChangeAt Go.RowKit Go.Maps Go.Sort
set_option linter.unusedVariables false
set_option maxRecDepth 100000
attribute [local go_sem ↓] Go.wp_at_zero Go.wp_at_succ

theorem l1hours_any (cb : Nat) (w : World) (hc : Cur w cb) :
    Calls Try.prog 27 #[.pointer (some ⟨cb, 0, none⟩)] w fun e w' => (∃ x : Int, e = .returned (.int .i64 x)) ∧ Cur w' cb ∧ w.grownBy w' (some cb) := by
  have hcl := hc.lt
  go_enter Try.func27, Try.ntmps27
  go_wp2_with fail
  refine (l1Once_any cb 9 _ hc).mono ?_
  rintro e w2 ⟨⟨b, rfl⟩, hc2, hg2⟩
  cases b with
  | true =>
    have b3 : Below w2.heap.size w2 (w2.alloc (Obj.cells #[.int .i64 (-1), .int .i64 0, .int .i64 1000000, .int .i64 1000001] 3)) := (Below.refl _ _).alloc (Nat.le_refl _) _
    have hz := hg2.size
    go_wp2_with fail
    refine (l1PickInt_any cb w2.heap.size 0 4 4 (pick4 (-1) 0 1000000 1000001) _ (hc2.stays b3) (by omega) (by omega) (four_at w2 (-1) 0 1000000 1000001 3) (by omega)).mono ?_
    rintro e w4 ⟨⟨j, hj, rfl⟩, hc4, hg4⟩
    go_wp2
    go_ret
    exact ⟨⟨_, rfl⟩, hc4, gb_tr (gb_tr hg2 (gb_be _ b3)) hg4⟩
  | false =>
    go_wp2_with fail
    refine (l1Below_any cb 30 _ hc2).mono ?_
    rintro e w4 ⟨⟨x, rfl, _, _⟩, hc4, hg4⟩
    go_wp2
    go_ret
    exact ⟨⟨_, rfl⟩, hc4, gb_tr hg2 hg4⟩

theorem one_box {w2 x : World} {B cb : Nat} {v : Value} (hg : w2.grownBy x (some cb)) (hB : B < w2.heap.size) (hne : B ≠ cb) (h0 : w2.cell? ⟨B, 0, none⟩ = some v) (f0 : w2.frozen? ⟨B, 0, none⟩ = false) :
    x.cell? ⟨B, 0, none⟩ = some v ∧ x.frozen? ⟨B, 0, none⟩ = false := by
  have n1 : some B ≠ some cb := by intro e; injection e with e; exact hne e
  exact ⟨by rw [hg.cell_far _ hB n1]; exact h0, by rw [hg.frozen_far _ hB n1]; exact f0⟩

/-- A store that is drawn: small, of keys that are numbers. -/
structure Drawn (w' : World) (v : Value) (l : List Ch) : Prop where
  at' : ChainsAt 0 w'.heap.size w' v l
  len : l.length ≤ 13
  vers : ∀ i, i < l.length → (cAt l i).l.length ≤ 200
  wfs : WfCh l
  caps : CapsAt w' v l

theorem ChainsAt.drawn {lo hi : Nat} {w : World} {v : Value} {l : List Ch} (h : ChainsAt lo hi w v l) (hh : hi ≤ w.heap.size) (h1 : l.length ≤ 13) (h2 : ∀ i, i < l.length → (cAt l i).l.length ≤ 200) (h3 : WfCh l) (h4 : CapsAt w v l) : Drawn w v l :=
  ⟨h.wide (Nat.zero_le _) hh, h1, h2, h3, h4⟩

set_option maxHeartbeats 2000000 in
theorem drawPrune_any (a : Option Addr) (n cap : Nat) (w : World) (hc : BytesIn w a n) :
    Calls Try.prog 16 #[.slice a n cap] w fun e w' => (∃ v l h, e = .returned (.tuple #[.agg #[v], .int .i64 h]) ∧ Drawn w' v l) ∧ Below w.heap.size w w' := by
  have bA : Below w.heap.size w (w.alloc (Obj.cells #[.slice none 0 0] 25)) := (Below.refl _ _).alloc (Nat.le_refl _) _
  go_enter Try.func16, Try.ntmps16
  go_wp2_with fail
  refine (l1New_any a n cap _ (hc.stays bA)).mono ?_
  rintro e w1 ⟨rfl, hc1, hb1⟩
  have hz1 := hb1.size
  have hcl := hc1.lt
  simp only [World.size_alloc] at hc1 hcl hz1
  have b1 := bA.trans (hb1.mono bA.size)
  have a0 : w1.cell? ⟨w.heap.size, 0, none⟩ = some (.slice none 0 0) := cell_stays hb1 (by simp [go_sem])
  have f0 : w1.frozen? ⟨w.heap.size, 0, none⟩ = false := by rw [hb1.frozen (by simp)]; simp [go_sem]
  clear hb1 bA
  go_wp2_with fail
  refine (l1bent_any _ _ hc1).mono ?_
  rintro e w2 ⟨v, l, rfl, hC2, hn, hvn, hwf, hk2, hc2, hg2⟩
  have hz2 := hg2.size
  have hB2 := below_alloc w2 (Obj.cells #[v] 25)
  have hg23 := gb_tr hg2 (gb_be _ hB2)
  have hc3 := hc2.stays hB2
  have hC3 := hC2.stays hB2
  have hk3 := hk2.stays hB2
  clear hk2
  obtain ⟨p0, p1⟩ := one_box hg23 (by omega) (by omega) a0 f0
  have s0 : (w2.alloc (Obj.cells #[v] 25)).cell? ⟨w2.heap.size, 0, none⟩ = some v := by simp [go_sem]
  have s1 : (w2.alloc (Obj.cells #[v] 25)).frozen? ⟨w2.heap.size, 0, none⟩ = false := by simp [go_sem]
  have b3 := b1.grown hg23 b1.size (fun k hk => by cases hk; omega)
  have z3 : w2.heap.size < (w2.alloc (Obj.cells #[v] 25)).heap.size := by simp
  obtain ⟨av, cv, rfl⟩ : ∃ av cv, v = .slice av l.length cv := by obtain ⟨av, cv, h1, _⟩ := hC2; exact ⟨av, cv, h1⟩
  go_wp2_with fail
  clear a0 f0 hg2 hg23 hc1 hc2 b1 hB2 hC2
  generalize w2.alloc (Obj.cells #[.slice av l.length cv] 25) = W at *
  have d2 : W.drew.cell? ⟨w2.heap.size, 0, none⟩ = some (.slice av l.length cv) := s0
  go_region_law (rw [if_pos (by rfl)]; go_simp; go_at_call 27; refine (l1hours_any _ _ (hc3.stays (Below.refl _ _).drew)).mono ?_; rintro e w4 ⟨⟨h, rfl⟩, hc4, hg4⟩; have hg34 := gb_tr (gb_be _ (Below.refl W.heap.size W).drew) hg4; obtain ⟨x0, x1⟩ := one_box hg34 (by omega) (by omega) p0 p1; obtain ⟨v0, v1⟩ := one_box hg34 z3 (by omega) s0 s1; simp only [])
  all_goals (
    go_wp2
    refine bodyPost_ret (v := .tuple #[.agg #[.slice av l.length cv], .int .i64 h]) ?_ rfl ⟨⟨_, l, h, rfl, ?_⟩, ?_⟩
    · simp [results, Try.results16, go_sem, x0]
    · have hs4 : ∀ b, w1.heap.size + 3 ≤ b → b < w2.heap.size → b < W.heap.size → (w4.setCell ⟨w.heap.size, 0, none⟩ (.slice av l.length cv)).heap[b]? = W.heap[b]? := fun b hl hh hlt => (Below.heap_setCell _ _ _ _ (show b ≠ w.heap.size by omega)).trans (hg34.block b hlt (by intro e; injection e with e; omega))
      exact (hC3.keep hs4).drawn (by rw [size_setCell]; have := hg34.size; omega) hn hvn hwf (hk3.keep hC3 hs4)
    · have b4 := (b3.drew).grown hg4 b3.size (fun k hk => by cases hk; omega)
      exact b4.setCell (by simp) _)

set_option maxHeartbeats 2000000 in
theorem drawReadAt_any (a : Option Addr) (n cap : Nat) (w : World) (hc : BytesIn w a n) :
    Calls Try.prog 22 #[.slice a n cap] w fun e w' => (∃ v l t r h, e = .returned (.tuple #[.agg #[v], .agg #[.int .i64 t, .int .i64 r], .int .i64 h]) ∧ Drawn w' v l ∧ wf t ∧ wf r) ∧ Below w.heap.size w w' := by
  have bA : Below w.heap.size w ((w.alloc (Obj.cells #[.slice none 0 0] 25)).alloc (Obj.cells #[.int .i64 0, .int .i64 0] 36)) := ((Below.refl _ _).alloc (Nat.le_refl _) _).alloc (by simp) _
  go_enter Try.func22, Try.ntmps22
  go_wp2_with fail
  refine (l1New_any a n cap _ (hc.stays bA)).mono ?_
  rintro e w1 ⟨rfl, hc1, hb1⟩
  have hz1 := hb1.size
  have hcl := hc1.lt
  simp only [World.size_alloc] at hc1 hcl hz1
  have b1 := bA.trans (hb1.mono bA.size)
  have a0 : w1.cell? ⟨w.heap.size, 0, none⟩ = some (.slice none 0 0) := cell_stays hb1 (by simp [go_sem])
  have f0 : w1.frozen? ⟨w.heap.size, 0, none⟩ = false := by rw [hb1.frozen (by simp; omega)]; simp [go_sem]
  have a2 : w1.cell? ⟨w.heap.size + 1, 0, none⟩ = some (.int .i64 0) := cell_stays hb1 (by simp [go_sem])
  have a3 : w1.cell? ⟨w.heap.size + 1, 1, none⟩ = some (.int .i64 0) := cell_stays hb1 (by simp [go_sem])
  have f2 : w1.frozen? ⟨w.heap.size + 1, 0, none⟩ = false := by rw [hb1.frozen (by simp)]; simp [go_sem]
  have f3 : w1.frozen? ⟨w.heap.size + 1, 1, none⟩ = false := by rw [hb1.frozen (by simp)]; simp [go_sem]
  clear hb1 bA
  go_wp2_with fail
  refine (l1bent_any _ _ hc1).mono ?_
  rintro e w2 ⟨v, l, rfl, hC2, hn, hvn, hwf, hk2, hc2, hg2⟩
  have hz2 := hg2.size
  have hB2 := below_alloc w2 (Obj.cells #[v] 25)
  have hg23 := gb_tr hg2 (gb_be _ hB2)
  have hc3 := hc2.stays hB2
  have hC3 := hC2.stays hB2
  have hk3 := hk2.stays hB2
  clear hk2
  obtain ⟨p0, p1⟩ := one_box hg23 (by omega) (by omega) a0 f0
  obtain ⟨q0, q1, q2, q3⟩ := key_box hg23 (by omega) (by omega) a2 a3 f2 f3
  have s0 : (w2.alloc (Obj.cells #[v] 25)).cell? ⟨w2.heap.size, 0, none⟩ = some v := by simp [go_sem]
  have s1 : (w2.alloc (Obj.cells #[v] 25)).frozen? ⟨w2.heap.size, 0, none⟩ = false := by simp [go_sem]
  have b3 := b1.grown hg23 b1.size (fun k hk => by cases hk; omega)
  have z3 : w2.heap.size < (w2.alloc (Obj.cells #[v] 25)).heap.size := by simp
  obtain ⟨av, cv, rfl⟩ : ∃ av cv, v = .slice av l.length cv := by obtain ⟨av, cv, h1, _⟩ := hC2; exact ⟨av, cv, h1⟩
  go_wp2_with fail
  clear a0 f0 a2 a3 f2 f3 hg2 hg23 hc1 hc2 b1 hB2 hC2
  generalize w2.alloc (Obj.cells #[.slice av l.length cv] 25) = W at *
  refine (l1keyBent_any _ _ hc3).mono ?_
  rintro e w4 ⟨⟨t, r, rfl, wt, wr⟩, hc4, hg4⟩
  have HWt : Hid (wf t) := wt
  have HWr : Hid (wf r) := wr
  clear wt wr
  have hz4 := hg4.size
  have hB4 := below_alloc w4 (Obj.cells #[.int .i64 t, .int .i64 r] 36)
  have hg45 := gb_tr hg4 (gb_be _ hB4)
  have hc5 := hc4.stays hB4
  have hs4 : ∀ b, w1.heap.size + 3 ≤ b → b < w2.heap.size → b < W.heap.size → w4.heap[b]? = W.heap[b]? := fun b hl hh hlt => hg4.block b hlt (by intro e; injection e with e; omega)
  have hC5 := (hC3.keep hs4).stays hB4
  have hk5 := (hk3.keep hC3 hs4).stays hB4
  clear hk3 hs4
  obtain ⟨p0', p1'⟩ := one_box hg45 (by omega) (by omega) p0 p1
  obtain ⟨s0', s1'⟩ := one_box hg45 z3 (by omega) s0 s1
  obtain ⟨q0', q1', q2', q3'⟩ := key_box hg45 (by omega) (by omega) q0 q1 q2 q3
  have t0 : (w4.alloc (Obj.cells #[.int .i64 t, .int .i64 r] 36)).cell? ⟨w4.heap.size, 0, none⟩ = some (.int .i64 t) := by simp [go_sem]
  have t1 : (w4.alloc (Obj.cells #[.int .i64 t, .int .i64 r] 36)).cell? ⟨w4.heap.size, 1, none⟩ = some (.int .i64 r) := by simp [go_sem]
  have t2 : (w4.alloc (Obj.cells #[.int .i64 t, .int .i64 r] 36)).frozen? ⟨w4.heap.size, 0, none⟩ = false := by simp [go_sem]
  have t3 : (w4.alloc (Obj.cells #[.int .i64 t, .int .i64 r] 36)).frozen? ⟨w4.heap.size, 1, none⟩ = false := by simp [go_sem]
  have b5 := b3.grown hg45 b3.size (fun k hk => by cases hk; omega)
  have z5 : w4.heap.size < (w4.alloc (Obj.cells #[.int .i64 t, .int .i64 r] 36)).heap.size := by simp
  go_wp2_with fail
  clear p0 p1 s0 s1 q0 q1 q2 q3 hg4 hg45 hc3 hc4 b3 hB4 hC3
  generalize w4.alloc (Obj.cells #[.int .i64 t, .int .i64 r] 36) = X at *
  have d2 : X.drew.cell? ⟨w2.heap.size, 0, none⟩ = some (.slice av l.length cv) := s0'
  have d3 : X.drew.cell? ⟨w4.heap.size, 0, none⟩ = some (.int .i64 t) := t0
  have d4 : X.drew.cell? ⟨w4.heap.size, 1, none⟩ = some (.int .i64 r) := t1
  go_region_law (rw [if_pos (by rfl)]; go_simp; go_at_call 27; refine (l1hours_any _ _ (hc5.stays (Below.refl _ _).drew)).mono ?_; rintro e w6 ⟨⟨h, rfl⟩, hc6, hg6⟩; have hg56 := gb_tr (gb_be _ (Below.refl X.heap.size X).drew) hg6; obtain ⟨x0, x1⟩ := one_box hg56 (by omega) (by omega) p0' p1'; obtain ⟨v0, v1⟩ := one_box hg56 (by omega) (by omega) s0' s1'; obtain ⟨y0, y1, y2, y3⟩ := key_box hg56 (by omega) (by omega) q0' q1' q2' q3'; obtain ⟨u0, u1, u2, u3⟩ := key_box hg56 z5 (by omega) t0 t1 t2 t3; simp only [])
  all_goals (
    have nA : ¬ w.heap.size = w.heap.size + 1 := by omega
    go_wp2
    refine bodyPost_ret (v := .tuple #[.agg #[.slice av l.length cv], .agg #[.int .i64 t, .int .i64 r], .int .i64 h]) ?_ rfl ⟨⟨_, l, t, r, h, rfl, ?_, HWt.out, HWr.out⟩, ?_⟩
    · simp [results, Try.results22, go_sem, x0, y0, y1]
    · have hs6 : ∀ b, w1.heap.size + 3 ≤ b → b < w2.heap.size → b < X.heap.size → (((w6.setCell ⟨w.heap.size, 0, none⟩ (.slice av l.length cv)).setCell ⟨w.heap.size + 1, 0, none⟩ (.int .i64 t)).setCell ⟨w.heap.size + 1, 1, none⟩ (.int .i64 r)).heap[b]? = X.heap[b]? := fun b hl hh hlt =>
        (Below.heap_setCell _ _ _ _ (show b ≠ w.heap.size + 1 by omega)).trans ((Below.heap_setCell _ _ _ _ (show b ≠ w.heap.size + 1 by omega)).trans ((Below.heap_setCell _ _ _ _ (show b ≠ w.heap.size by omega)).trans (hg56.block b hlt (by intro e; injection e with e; omega))))
      exact (hC5.keep hs6).drawn (by rw [size_setCell, size_setCell, size_setCell]; have := hg56.size; omega) hn hvn hwf (hk5.keep hC5 hs6)
    · have b6 := (b5.drew).grown hg6 b5.size (fun k hk => by cases hk; omega)
      exact ((b6.setCell (by simp) _).setCell (by simp) _).setCell (by simp) _)
end Go.Proofs.Ytifdfelpbonckaa
