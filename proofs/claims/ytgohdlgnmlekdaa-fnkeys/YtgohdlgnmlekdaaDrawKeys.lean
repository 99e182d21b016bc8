/- spec.DrawKeyLess: two keys, whatever the code. -/
import Derived.Test.YtgohdlgnmlekdaaDraw1
import Derived.Deep.RegionLaw
namespace Go.Proofs.Ytgohdlgnmlekdaa
open Go.ChangeShapes Go.WideShapes Go.ChangeAt Go.RowKit Go.Sort
set_option linter.unusedVariables false
set_option maxRecDepth 100000
attribute [local go_sem ↓] Go.wp_at_zero Go.wp_at_succ

set_option maxHeartbeats 2000000 in
theorem drawKeyLess_any (a : Option Addr) (n cap : Nat) (w : World) (hc : BytesIn w a n) :
    Calls Try.prog 26 #[.slice a n cap] w fun e w' => (∃ t r t2 r2 : Int, e = .returned (.tuple #[.agg #[.int .i64 t, .int .i64 r], .agg #[.int .i64 t2, .int .i64 r2]])) ∧ Below w.heap.size w w' := by
  have hA : Below w.heap.size w ((w.alloc (Obj.cells #[.int .i64 0, .int .i64 0] 36)).alloc (Obj.cells #[.int .i64 0, .int .i64 0] 36)) := ((Below.refl _ _).alloc (Nat.le_refl _) _).alloc (by simp) _
  go_enter Try.func26, Try.ntmps26
  go_wp2_with fail
  refine (l1New_any a n cap _ (hc.stays hA)).mono ?_
  rintro e w1 ⟨rfl, hc1, hb1⟩
  have hcl := hc1.lt
  have hz1 := hb1.size
  simp only [World.size_alloc] at hc1 hcl hz1
  have b1 := hA.trans (hb1.mono hA.size)
  have a0 : w1.cell? ⟨w.heap.size, 0, none⟩ = some (.int .i64 0) := cell_stays hb1 (by simp [go_sem])
  have a1 : w1.cell? ⟨w.heap.size, 1, none⟩ = some (.int .i64 0) := cell_stays hb1 (by simp [go_sem])
  have a2 : w1.cell? ⟨w.heap.size + 1, 0, none⟩ = some (.int .i64 0) := cell_stays hb1 (by simp [go_sem])
  have a3 : w1.cell? ⟨w.heap.size + 1, 1, none⟩ = some (.int .i64 0) := cell_stays hb1 (by simp [go_sem])
  have f0 : w1.frozen? ⟨w.heap.size, 0, none⟩ = false := by rw [hb1.frozen (by simp; omega)]; simp [go_sem]
  have f1 : w1.frozen? ⟨w.heap.size, 1, none⟩ = false := by rw [hb1.frozen (by simp; omega)]; simp [go_sem]
  have f2 : w1.frozen? ⟨w.heap.size + 1, 0, none⟩ = false := by rw [hb1.frozen (by simp)]; simp [go_sem]
  have f3 : w1.frozen? ⟨w.heap.size + 1, 1, none⟩ = false := by rw [hb1.frozen (by simp)]; simp [go_sem]
  go_wp2_with fail
  refine (l1keyBent_any _ _ hc1).mono ?_
  rintro e w2 ⟨⟨t, r, rfl⟩, hc2, hg2⟩
  have hg23 := gb_tr hg2 (World.grownBy_alloc w2 (Obj.cells #[.int .i64 t, .int .i64 r] 36) (some (w.heap.size + 1 + 1)))
  have hz2 := hg2.size
  have hc3 := hc2.stays ((Below.refl w2.heap.size w2).alloc (Nat.le_refl _) (Obj.cells #[.int .i64 t, .int .i64 r] 36))
  obtain ⟨p0, p1, p2, p3⟩ := key_box hg23 (by omega) (by omega) a0 a1 f0 f1
  obtain ⟨q0, q1, q2, q3⟩ := key_box hg23 (by omega) (by omega) a2 a3 f2 f3
  have s0 : (w2.alloc (Obj.cells #[.int .i64 t, .int .i64 r] 36)).cell? ⟨w2.heap.size, 0, none⟩ = some (.int .i64 t) := by simp [go_sem]
  have s1 : (w2.alloc (Obj.cells #[.int .i64 t, .int .i64 r] 36)).cell? ⟨w2.heap.size, 1, none⟩ = some (.int .i64 r) := by simp [go_sem]
  have s2 : (w2.alloc (Obj.cells #[.int .i64 t, .int .i64 r] 36)).frozen? ⟨w2.heap.size, 0, none⟩ = false := by simp [go_sem]
  have s3 : (w2.alloc (Obj.cells #[.int .i64 t, .int .i64 r] 36)).frozen? ⟨w2.heap.size, 1, none⟩ = false := by simp [go_sem]
  have b3 := b1.grown hg23 b1.size (fun k hk => by cases hk; omega)
  have z3 : w2.heap.size < (w2.alloc (Obj.cells #[.int .i64 t, .int .i64 r] 36)).heap.size := by simp
  go_wp2_with fail
  clear hA hb1 a0 a1 a2 a3 f0 f1 f2 f3 hg2 hg23 hc1 hc2 b1
  generalize w2.alloc (Obj.cells #[.int .i64 t, .int .i64 r] 36) = W at *
  have nA : ¬ w.heap.size = w.heap.size + 1 := by omega
  have d0 : W.drew.cell? ⟨w.heap.size, 0, none⟩ = some (.int .i64 0) := p0
  have d1 : W.drew.cell? ⟨w.heap.size, 1, none⟩ = some (.int .i64 0) := p1
  have d2 : W.drew.cell? ⟨w2.heap.size, 0, none⟩ = some (.int .i64 t) := s0
  have d3 : W.drew.cell? ⟨w2.heap.size, 1, none⟩ = some (.int .i64 r) := s1
  go_region_law (rw [if_pos (by rfl)]; go_simp; go_at_call 53; refine (l1keyBent_any _ _ (hc3.stays (Below.refl _ _).drew)).mono ?_; rintro e w4 ⟨⟨t2, r2, rfl⟩, hc4, hg4⟩; obtain ⟨x0, x1, x2, x3⟩ := key_box (gb_tr (gb_be _ (Below.refl W.heap.size W).drew) hg4) (by omega) (by omega) p0 p1 p2 p3; obtain ⟨y0, y1, y2, y3⟩ := key_box (gb_tr (gb_be _ (Below.refl W.heap.size W).drew) hg4) (by omega) (by omega) q0 q1 q2 q3; obtain ⟨v0, v1, v2, v3⟩ := key_box (gb_tr (gb_be _ (Below.refl W.heap.size W).drew) hg4) z3 (by omega) s0 s1 s2 s3; simp only [])
  all_goals (
    go_wp2
    refine bodyPost_ret (v := .tuple #[.agg #[.int .i64 t, .int .i64 r], .agg #[.int .i64 t2, .int .i64 r2]]) ?_ rfl ⟨⟨t, r, t2, r2, rfl⟩, ?_⟩
    · simp [results, Try.results26, go_sem, x0, x1, y0, y1]
    · have b4 := (b3.drew).grown hg4 b3.size (fun k hk => by cases hk; omega)
      exact (((b4.setCell (by simp) _).setCell (by simp) _).setCell (by simp) _).setCell (by simp) _)

end Go.Proofs.Ytgohdlgnmlekdaa
