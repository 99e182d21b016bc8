/- The hour of a row's last version: the program's LastAt. -/
import Derived.Test.YtifdfelpbonckaaLast1
namespace Go.Proofs.Ytifdfelpbonckaa
open Go.ChangeShapes Go.WideShapes Go.ChangeAt Go.RowKit Go.Sort Go.Maps
set_option linter.unusedVariables false
set_option maxRecDepth 100000
attribute [local go_sem ↓] Go.wp_at_zero Go.wp_at_succ

theorem byKey_last {lo hi : Nat} {w : World} {l : List Ch} {f : Int → Int → Option Value} (hs : storeOk l) (h : ByKey lo hi w l l.length f) (t r : Int) :
    ∃ (L : List Vr) (a : Option Addr) (c : Nat), (f t r).getD (.slice none 0 0) = .slice a L.length c ∧ VersAt lo hi w (.slice a L.length c) L ∧ ∀ k, IsUntil L 1000000 k → IsLastAt l t r (rdV L k).1 := by
  rcases h t r with ⟨h1, h2⟩ | ⟨i, h1, h2, h3, a, c, h4, h5⟩
  · refine ⟨[], none, 0, by rw [h1]; rfl, ⟨none, 0, rfl, Nat.zero_le _, fun h => absurd h (Nat.lt_irrefl _)⟩, fun k hk => ?_⟩
    have := hk.1
    obtain rfl : k = 0 := by simpa using this
    exact .inl ⟨rfl, h2⟩
  · refine ⟨(cAt l i).l, a, c, by rw [h4]; rfl, h5, fun k hk => ?_⟩
    have hv := (hs.2 i h1).2.2
    have hk1 := hk.1
    have hfull : k = (cAt l i).l.length := by
      rcases Nat.lt_or_ge k (cAt l i).l.length with hlt | hge
      · have h6 := hk.2.2 hlt
        have h7 := (hv.2.2 k hlt).2.1
        omega
      · omega
    subst hfull
    refine .inr ⟨i, h1, h2, fun j hj hk' => by have := keys_one hs (by omega) h1 hk' h2; omega, ?_⟩
    have := hv.1
    simp [rdV, show ¬ (cAt l i).l.length = 0 by omega]

set_option maxHeartbeats 1000000 in
theorem implLastAt_any (v : Value) (l : List Ch) (t r : Int) (w : World) {lo hi : Nat} (hl : ChainsAt lo hi w v l) (hw : WfCh l) (wt : wf t) (wr : wf r) (hn : l.length ≤ 1048576) :
    Calls Try.prog 15 #[.agg #[v], .agg #[.int .i64 t, .int .i64 r]] w fun e w' => ∃ x, e = .returned (.int .i64 x) ∧ LAns l t r x ∧ Below w.heap.size w w' := by
  obtain ⟨a, cap, hv⟩ : ∃ a cap, v = .slice a l.length cap := by obtain ⟨a, cap, h1, _⟩ := hl; exact ⟨a, cap, h1⟩
  subst hv
  have hbx : Below w.heap.size w ((w.alloc (Obj.cells #[Value.slice a l.length cap] 25)).alloc (Obj.cells #[.int .i64 t, .int .i64 r] 36)) := ((Below.refl _ _).alloc (Nat.le_refl _) _).alloc (by simp) _
  go_enter Try.func15, Try.ntmps15
  go_wp2_with fail
  refine (implStoreOk_any _ l _ (hl.stays hbx)).mono ?_
  rintro e w1 ⟨⟨q, rfl, hq⟩, hb1⟩
  have b1 := hbx.trans (hb1.mono hbx.size)
  have p0 : w1.cell? ⟨w.heap.size, 0, none⟩ = some (.slice a l.length cap) := cell_stays hb1 (by simp [go_sem])
  have p1 : w1.cell? ⟨w.heap.size + 1, 0, none⟩ = some (.int .i64 t) := cell_stays hb1 (by simp [go_sem])
  have p2 : w1.cell? ⟨w.heap.size + 1, 1, none⟩ = some (.int .i64 r) := cell_stays hb1 (by simp [go_sem])
  clear hb1 hbx
  by_cases hs : storeOk l
  · obtain rfl := hq.2 hs
    clear hq
    by_cases ht : tabB t = true
    · go_wp2_with (first | (go_at_call 34; refine (isTable_any _ _).mono ?_; rintro e w2 ⟨rfl, rfl⟩))
      have z2 : w.heap.size + 1 < w2.heap.size := cell_lt p1
      have hfld := field_at
      have hS2 : Boxes w a l.length cap t r w2 := ⟨b1, z2, p0, p1, p2⟩
      go_region_held3 (fun x => Below w.heap.size w x ∧ w.heap.size + 1 < x.heap.size ∧ x.cell? ⟨w.heap.size, 0, none⟩ = some (.slice a l.length cap) ∧ x.cell? ⟨w.heap.size + 1, 0, none⟩ = some (.int .i64 t) ∧ x.cell? ⟨w.heap.size + 1, 1, none⟩ = some (.int .i64 r))
        (first | assumption | exact hS6 | exact hS5 | exact hS2.kept (Below.refl _ _).drew)
        (first | (go_at_call 32; refine (chainsByKey_any _ l _ (hl.stays b1.drew) hw hn).mono ?_; rintro e w5 ⟨bm, D, f, rfl, hown, hat, hby, hbm, hb5⟩; have hlk := look_vers hown hat wt wr; obtain ⟨L, la, lc, hL, hvL, hrd⟩ := byKey_last hs hby t r; rw [hL] at hlk; have hvL5 := hvL.stays hb5; have hS5 : Boxes w a l.length cap t r w5 := (hS2.kept (Below.refl _ _).drew).kept hb5) | (go_at_call 47; refine (verAt_any _ L _ _ hvL5).mono ?_; rintro e w6 ⟨k, rfl, hk, hb6⟩; have hS6 : Boxes w a l.length cap t r w6 := hS5.kept hb6))
      all_goals
        go_wp2
        go_ret
        exact ⟨_, rfl, .inr ⟨⟨hs, ht⟩, hrd k hk⟩, hS6.1⟩
    · have ht' : tabB t = false := by simpa using ht
      go_wp2_with (first | (go_at_call 34; refine (isTable_any _ _).mono ?_; rintro e w2 ⟨rfl, rfl⟩))
      go_ret
      exact ⟨_, rfl, .inl ⟨fun h => ht h.2, rfl⟩, b1⟩
  · obtain rfl := says_false hq hs
    clear hq
    go_wp2
    go_ret
    exact ⟨_, rfl, .inl ⟨fun h => hs h.1, rfl⟩, b1⟩

end Go.Proofs.Ytifdfelpbonckaa
