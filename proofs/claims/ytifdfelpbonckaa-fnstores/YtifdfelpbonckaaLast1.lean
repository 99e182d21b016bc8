/- The hour of a row's last version. -/
import Derived.Test.YtifdfelpbonckaaRead
namespace Go.Proofs.Ytifdfelpbonckaa
open Go.ChangeShapes Go.WideShapes Go.ChangeAt Go.RowKit Go.Sort Go.Maps
set_option linter.unusedVariables false
set_option maxRecDepth 100000
attribute [local go_sem ↓] Go.wp_at_zero Go.wp_at_succ

/-- The hour of the last version of the first chain of that key. -/
def IsLastAt (l : List Ch) (t r : Int) (x : Int) : Prop := (x = 0 ∧ ∀ i, i < l.length → ¬ km l i t r) ∨ ∃ n : Nat, n < l.length ∧ km l n t r ∧ (∀ i, i < n → ¬ km l i t r) ∧ x = (vAt (cAt l n).l ((cAt l n).l.length - 1)).1

theorem IsLastAt.one {l : List Ch} {t r x y : Int} (hx : IsLastAt l t r x) (hy : IsLastAt l t r y) : x = y := by
  rcases hx with ⟨rfl, h1⟩ | ⟨i, h1, h2, h3, h4⟩ <;> rcases hy with ⟨rfl, g1⟩ | ⟨j, g1, g2, g3, g4⟩
  · rfl
  · exact absurd g2 (h1 j g1)
  · exact absurd h2 (g1 i h1)
  · have e : i = j := by
      rcases Nat.lt_trichotomy i j with hlt | e | hlt
      · exact absurd h2 (g3 i hlt)
      · exact e
      · exact absurd g2 (h3 j hlt)
    subst e
    rw [h4, g4]

theorem l1last_any (v : Value) (l : List Ch) (t r : Int) (w : World) {lo hi : Nat} (hl : ChainsAt lo hi w v l) (hs : storeOk l) :
    Calls Try.prog 40 #[.agg #[v], .agg #[.int .i64 t, .int .i64 r]] w fun e w' => ∃ x, e = .returned (.int .i64 x) ∧ IsLastAt l t r x ∧ Below w.heap.size w w' := by
  have hl2 := hl
  obtain ⟨a, cap, hv, hm, hc⟩ := hl2
  subst hv
  unfold maxLen at hm
  have hbx : Below w.heap.size w ((w.alloc (Obj.cells #[Value.slice a l.length cap] 25)).alloc (Obj.cells #[.int .i64 t, .int .i64 r] 36)) := ((Below.refl _ _).alloc (Nat.le_refl _) _).alloc (by simp) _
  go_enter Try.func40, Try.ntmps40
  go_wp2_with fail
  refine (l1chain_any _ l t r _ (hl.stays hbx)).mono ?_
  rintro e w1 ⟨x, rfl, hx, hb1⟩
  have b1 := hbx.trans (hb1.mono hbx.size)
  have p0 : w1.cell? ⟨w.heap.size, 0, none⟩ = some (.slice a l.length cap) := cell_stays hb1 (by simp [go_sem])
  clear hb1 hbx
  rcases hx with ⟨rfl, hno⟩ | ⟨n, rfl, hn, hkm, hfirst⟩
  · clear hc
    go_wp2
    go_ret
    exact ⟨_, rfl, .inl ⟨rfl, hno⟩, b1⟩
  · obtain ⟨b, off, rfl, hlo, hhi, hcc⟩ := hc (by omega)
    obtain ⟨c0, c1, ca, cb, c2, c3⟩ := hcc n hn
    obtain ⟨a2, cap2, e2, hm2, hc2⟩ := c3
    injection e2 with e2a e2b e2c
    subst e2a e2c
    have hpos := (hs.2 n hn).2.2.1
    obtain ⟨b2, off2, rfl, _, _, hcc2⟩ := hc2 (by omega)
    have d0 := hcc2 ((cAt l n).l.length - 1) (by omega)
    have k0 := cell_regrown p0
    have k1 := cell_regrown (cell_stays b1 c2)
    have k2 := cell_regrown (cell_stays b1 d0.1)
    clear e2b hcc hc c0 c1 hc2 hcc2 d0 c2
    unfold maxLen at hm2
    have n0 : (0 : Int) ≤ (n : Int) := by omega
    have n1 : (n : Int) < (l.length : Int) := by omega
    have n2 : (1 : Int) ≤ ((cAt l n).l.length : Int) := by omega
    go_wp2_with fail
    refine wp_region_quiet_below (by kernel_rfl) (by kernel_rfl) ?_
    repeat (go_big_quiet_step (fail))
    refine wpQuiet_nil ?_
    intro w2 hw2
    obtain ⟨⟨dq, osq⟩, hw3⟩ := hw2
    have hb2 : Below _ _ w2 := hw3 ▸ below_regrown _ dq osq
    clear hw3
    go_wp2
    go_ret
    exact ⟨_, rfl, .inr ⟨n, hn, hkm, hfirst, rfl⟩, b1.trans (hb2.mono b1.size)⟩

/-- What LastAt answers. -/
def LAns (l : List Ch) (t r : Int) (x : Int) : Prop := (¬ (storeOk l ∧ tabB t = true) ∧ x = -1) ∨ ((storeOk l ∧ tabB t = true) ∧ IsLastAt l t r x)
theorem LAns.one {l : List Ch} {t r x y : Int} (hx : LAns l t r x) (hy : LAns l t r y) : x = y := by
  rcases hx with ⟨h1, rfl⟩ | ⟨h1, hx⟩ <;> rcases hy with ⟨g1, rfl⟩ | ⟨g1, hy⟩
  · rfl
  · exact absurd g1 h1
  · exact absurd h1 g1
  · exact hx.one hy

theorem field_at (x y : Int) (w : World) : (Instr.field 69 (.agg #[.int .i64 x, .int .i64 y]) 0).run Try.prog w = .ok (.int .i64 x) w := by kernel_rfl

end Go.Proofs.Ytifdfelpbonckaa
