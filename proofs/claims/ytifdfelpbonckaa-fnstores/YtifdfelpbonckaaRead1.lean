/- spec.l1read: what is read of a row at an hour. -/
import Derived.Test.YtifdfelpbonckaaRead
namespace Go.Proofs.Ytifdfelpbonckaa
open Go.ChangeShapes Go.WideShapes Go.ChangeAt Go.RowKit Go.Sort Go.Maps
set_option linter.unusedVariables false
set_option maxRecDepth 100000
attribute [local go_sem ↓] Go.wp_at_zero Go.wp_at_succ

set_option maxHeartbeats 1000000 in
theorem l1read_any (v : Value) (l : List Ch) (t r h : Int) (w : World) {lo hi : Nat} (hl : ChainsAt lo hi w v l) :
    Calls Try.prog 48 #[.agg #[v], .agg #[.int .i64 t, .int .i64 r], .int .i64 h] w fun e w' => ∃ x : Vr, e = .returned (.agg #[.int .i64 x.1, .int .i64 x.2]) ∧ IsRead l t r h x ∧ Below w.heap.size w w' := by
  have hl2 := hl
  obtain ⟨a, cap, hv, hm, hc⟩ := hl2
  subst hv
  unfold maxLen at hm
  have hbx : Below w.heap.size w ((((w.alloc (Obj.cells #[Value.slice a l.length cap] 25)).alloc (Obj.cells #[.int .i64 t, .int .i64 r] 36)).alloc (Obj.cells #[.int .i64 0, .int .i64 0] 69)).alloc (Obj.cells #[.int .i64 0, .int .i64 0] 69)) :=
    (((Below.refl _ _).alloc (Nat.le_refl _) _).alloc (by simp) _).alloc (by simp; omega) _ |>.alloc (by simp; omega) _
  go_enter Try.func48, Try.ntmps48
  go_wp2_with fail
  refine (l1chain_any _ l t r _ (hl.stays hbx)).mono ?_
  rintro e w1 ⟨x, rfl, hx, hb1⟩
  have b1 := hbx.trans (hb1.mono hbx.size)
  obtain ⟨hc1, hf1⟩ := bcell hb1
  have z0 : w1.cell? ⟨w.heap.size, 0, none⟩ = some (.slice a l.length cap) := by rw [hc1 _ _ (by simp; omega)]; simp [go_sem]
  have z1 : w1.cell? ⟨w.heap.size + 1 + 1, 0, none⟩ = some (.int .i64 0) := by rw [hc1 _ _ (by simp)]; simp [go_sem]
  have z2 : w1.cell? ⟨w.heap.size + 1 + 1, 1, none⟩ = some (.int .i64 0) := by rw [hc1 _ _ (by simp)]; simp [go_sem]
  have z3 : w1.cell? ⟨w.heap.size + 1 + 1 + 1, 0, none⟩ = some (.int .i64 0) := by rw [hc1 _ _ (by simp)]; simp [go_sem]
  have z4 : w1.cell? ⟨w.heap.size + 1 + 1 + 1, 1, none⟩ = some (.int .i64 0) := by rw [hc1 _ _ (by simp)]; simp [go_sem]
  have y1 : w1.frozen? ⟨w.heap.size + 1 + 1, 0, none⟩ = false := by rw [hf1 _ _ (by simp)]; simp [go_sem]
  have y2 : w1.frozen? ⟨w.heap.size + 1 + 1, 1, none⟩ = false := by rw [hf1 _ _ (by simp)]; simp [go_sem]
  have y3 : w1.frozen? ⟨w.heap.size + 1 + 1 + 1, 0, none⟩ = false := by rw [hf1 _ _ (by simp)]; simp [go_sem]
  have y4 : w1.frozen? ⟨w.heap.size + 1 + 1 + 1, 1, none⟩ = false := by rw [hf1 _ _ (by simp)]; simp [go_sem]
  clear hc1 hf1 hb1 hbx
  rcases hx with ⟨rfl, hno⟩ | ⟨n, rfl, hn, hkm, hfirst⟩
  · clear hc
    go_wp2
    refine bodyPost_ret (v := .agg #[.int .i64 0, .int .i64 0]) (by simp [results, Try.results48, go_sem, z1, z2]) rfl ⟨(0, 0), rfl, .inl ⟨rfl, hno⟩, ?_⟩
    exact (b1.setCell (by simp; omega) _).setCell (by simp; omega) _
  · obtain ⟨b, off, rfl, hlo, hhi, hcc⟩ := hc (by omega)
    obtain ⟨c0, c1, ca, cb, c2, c3⟩ := hcc n hn
    obtain ⟨a2, cap2, e2, hm2, hc2⟩ := c3
    injection e2 with e2a e2b e2c
    subst e2a e2c
    clear e2b hcc hc c0 c1
    unfold maxLen at hm2
    have n0 : (0 : Int) ≤ (n : Int) := by omega
    have n1 : (n : Int) < (l.length : Int) := by omega
    go_wp2
    go_loopw [9] (fun i wr => ∃ (q : Nat) (x : Vr), q ≤ (cAt l n).l.length ∧ i = .int .i64 q ∧ Below w.heap.size w wr ∧ wr.cell? ⟨w.heap.size, 0, none⟩ = some (.slice (some ⟨b, off, none⟩) l.length cap) ∧
        (∃ u, wr.cell? ⟨w.heap.size + 1 + 1, 0, none⟩ = some u) ∧ (∃ u, wr.cell? ⟨w.heap.size + 1 + 1, 1, none⟩ = some u) ∧ wr.cell? ⟨w.heap.size + 1 + 1 + 1, 0, none⟩ = some (.int .i64 x.1) ∧ wr.cell? ⟨w.heap.size + 1 + 1 + 1, 1, none⟩ = some (.int .i64 x.2) ∧
        wr.frozen? ⟨w.heap.size + 1 + 1, 0, none⟩ = false ∧ wr.frozen? ⟨w.heap.size + 1 + 1, 1, none⟩ = false ∧ wr.frozen? ⟨w.heap.size + 1 + 1 + 1, 0, none⟩ = false ∧ wr.frozen? ⟨w.heap.size + 1 + 1 + 1, 1, none⟩ = false ∧
        IsLast (cAt l n).l h q x) (fun i _ => (cAt l n).l.length - (intOf i).toNat)
    case atStart => exact ⟨0, (0, 0), Nat.zero_le _, rfl, b1, z0, ⟨_, z1⟩, ⟨_, z2⟩, z3, z4, y1, y2, y3, y4, .inl ⟨rfl, fun j hj => absurd hj (Nat.not_lt_zero _)⟩⟩
    case round =>
      clear z0 z1 z2 z3 z4 y1 y2 y3 y4
      obtain ⟨q, x, hq, rfl, hb, z0, ⟨u1, z1⟩, ⟨u2, z2⟩, z3, z4, y1, y2, y3, y4, hlast⟩ := hrel
      have d2 := cell_stays hb c2
      by_cases hlt : q < (cAt l n).l.length
      · obtain ⟨b2, off2, rfl, _, _, hcc2⟩ := hc2 (by omega)
        have e0 := cell_stays hb (hcc2 q hlt).1
        have e1 := cell_stays hb (hcc2 q hlt).2
        clear hcc2 hc2
        have j0 : (0 : Int) ≤ (q : Int) := by omega
        have j1 : (q : Int) < ((cAt l n).l.length : Int) := by omega
        by_cases hle : (vAt (cAt l n).l q).1 ≤ h
        · go_wp2
          go_roundw
          case rel => exact ⟨q + 1, vAt (cAt l n).l q, by omega, by go_num, (hb.setCell (by simp; omega) _).setCell (by simp; omega) _, by simp [go_sem, z0], ⟨u1, by simp [go_sem, z1]⟩, ⟨u2, by simp [go_sem, z2]⟩, by simp [go_sem, z3], by simp [go_sem, z4], by simp [go_sem, y1], by simp [go_sem, y2], by simp [go_sem, y3], by simp [go_sem, y4], IsLast.step_yes hle⟩
          case measure => simp [intOf]; omega
        · go_wp2
          go_roundw
          case rel => exact ⟨q + 1, x, by omega, by go_num, hb, z0, ⟨_, z1⟩, ⟨_, z2⟩, z3, z4, y1, y2, y3, y4, hlast.step_no (by omega)⟩
          case measure => simp [intOf]; omega
      · have hqq : q = (cAt l n).l.length := by omega
        go_wp2
        refine bodyPost_ret (v := .agg #[.int .i64 x.1, .int .i64 x.2]) (by simp [results, Try.results48, go_sem, z1, z2]) rfl ⟨x, rfl, .inr ⟨n, hn, hkm, hfirst, hqq ▸ hlast⟩, ?_⟩
        exact (hb.setCell (by simp; omega) _).setCell (by simp; omega) _

/-! ### ReadAt -/

end Go.Proofs.Ytifdfelpbonckaa
