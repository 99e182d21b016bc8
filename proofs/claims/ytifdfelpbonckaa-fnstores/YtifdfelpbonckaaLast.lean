/- The hour of a row's last version: the specification's LastAt. -/
import Derived.Test.YtifdfelpbonckaaLast1
namespace Go.Proofs.Ytifdfelpbonckaa
open Go.ChangeShapes Go.WideShapes Go.ChangeAt Go.RowKit Go.Sort Go.Maps
set_option linter.unusedVariables false
set_option maxRecDepth 100000
attribute [local go_sem ↓] Go.wp_at_zero Go.wp_at_succ

set_option maxHeartbeats 1000000 in
theorem specLastAt_any (v : Value) (l : List Ch) (t r : Int) (w : World) {lo hi : Nat} (hl : ChainsAt lo hi w v l) :
    Calls Try.prog 21 #[.agg #[v], .agg #[.int .i64 t, .int .i64 r]] w fun e w' => ∃ x, e = .returned (.int .i64 x) ∧ LAns l t r x ∧ Below w.heap.size w w' := by
  obtain ⟨a, cap, hv⟩ : ∃ a cap, v = .slice a l.length cap := by obtain ⟨a, cap, h1, _⟩ := hl; exact ⟨a, cap, h1⟩
  subst hv
  have hbx : Below w.heap.size w ((w.alloc (Obj.cells #[Value.slice a l.length cap] 25)).alloc (Obj.cells #[.int .i64 t, .int .i64 r] 36)) := ((Below.refl _ _).alloc (Nat.le_refl _) _).alloc (by simp) _
  go_enter Try.func21, Try.ntmps21
  go_wp2_with fail
  refine (specStoreOk_any _ l _ (hl.stays hbx)).mono ?_
  rintro e w1 ⟨⟨q, rfl, hq⟩, hb1⟩
  have b1 := hbx.trans (hb1.mono hbx.size)
  have p0 : w1.cell? ⟨w.heap.size, 0, none⟩ = some (.slice a l.length cap) := cell_stays hb1 (by simp [go_sem])
  have p1 : w1.cell? ⟨w.heap.size + 1, 0, none⟩ = some (.int .i64 t) := cell_stays hb1 (by simp [go_sem])
  have p2 : w1.cell? ⟨w.heap.size + 1, 1, none⟩ = some (.int .i64 r) := cell_stays hb1 (by simp [go_sem])
  clear hb1 hbx
  by_cases hs : storeOk l
  · obtain rfl := hq.2 hs
    clear hq
    by_cases ht : tabB t = true
    · go_wp2_with (first | (go_at_call 39; refine (l1table_any _ _ _).mono ?_; rintro e w2 ⟨rfl, hb2⟩; have p20 := cell_stays hb2 p0; have p21 := cell_stays hb2 p1; have p22 := cell_stays hb2 p2))
      have b2 := b1.trans (hb2.mono b1.size)
      refine (l1last_any _ l t r _ (hl.stays b2) hs).mono ?_
      rintro e w3 ⟨x, rfl, hx, hb3⟩
      go_wp2
      go_ret
      exact ⟨_, rfl, .inr ⟨⟨hs, ht⟩, hx⟩, b2.trans (hb3.mono b2.size)⟩
    · have ht' : tabB t = false := by simpa using ht
      go_wp2_with (first | (go_at_call 39; refine (l1table_any _ _ _).mono ?_; rintro e w2 ⟨rfl, hb2⟩))
      go_ret
      exact ⟨_, rfl, .inl ⟨fun h => ht h.2, rfl⟩, b1.trans (hb2.mono b1.size)⟩
  · obtain rfl := says_false hq hs
    clear hq
    go_wp2
    go_ret
    exact ⟨_, rfl, .inl ⟨fun h => hs h.1, rfl⟩, b1⟩

end Go.Proofs.Ytifdfelpbonckaa
