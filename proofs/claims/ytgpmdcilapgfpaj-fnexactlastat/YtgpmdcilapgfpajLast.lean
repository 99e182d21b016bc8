/- The hour of a row's last version: both LastAt functions. -/
import Derived.Test.YtgpmdcilapgfpajRead
namespace Go.Proofs.Ytgpmdcilapgfpaj
open Go.ChangeShapes Go.WideShapes Go.ChangeAt Go.RowKit Go.Sort Go.Maps
set_option linter.unusedVariables false
set_option maxRecDepth 100000
attribute [local go_sem ↓] Go.wp_at_zero Go.wp_at_succ

/-- The hour of the last version of the first chain of that key. -/
def IsLastAt (l : List Ch) (t r : Int) (x : Int) : Prop := (x = 0 ∧ ∀ i, i < l.length → ¬ km l i t r) ∨ ∃ n : Nat, n < l.length ∧ km l n t r ∧ (∀ i, i < n → ¬ km l i t r) ∧ x = (vAt (cAt l n).l ((cAt l n).l.length - 1)).1

theorem IsLastAt.one {l : List Ch} {t r x y : Int} (hx : IsLastAt l t r x) (hy : IsLastAt l t r y) : x = y := by
  rcases hx with ⟨rfl, h1⟩ | ⟨i, h1, h2, h3, h4⟩ <;> rcases hy with ⟨rfl, g1⟩ | ⟨j, g1, g2, g3, g4⟩
  · rfl
  · exact absurd g2 (h1 j g1)
  · exact absurd h2 (g1 i h1)
  · have e : i = j := by
      rcases Nat.lt_trichotomy i j with hlt | e | hlt
      · exact absurd h2 (g3 i hlt)
      · exact e
      · exact absurd g2 (h3 j hlt)
    subst e
    rw [h4, g4]

theorem l1last_any (v : Value) (l : List Ch) (t r : Int) (w : World) {lo hi : Nat} (hl : ChainsAt lo hi w v l) (hs : storeOk l) :
    Calls Try.prog 29 #[.agg #[v], .agg #[.int .i64 t, .int .i64 r]] w fun e w' => ∃ x, e = .returned (.int .i64 x) ∧ IsLastAt l t r x ∧ Below w.heap.size w w' := by
  have hl2 := hl
  obtain ⟨a, cap, hv, hm, hc⟩ := hl2
  subst hv
  unfold maxLen at hm
  have hbx : Below w.heap.size w ((w.alloc (Obj.cells #[Value.slice a l.length cap] 31)).alloc (Obj.cells #[.int .i64 t, .int .i64 r] 33)) := ((Below.refl _ _).alloc (Nat.le_refl _) _).alloc (by simp) _
  go_enter Try.func29, Try.ntmps29
  go_wp2_with fail
  refine (l1chain_any _ l t r _ (hl.stays hbx)).mono ?_
  rintro e w1 ⟨x, rfl, hx, hb1⟩
  have b1 := hbx.trans (hb1.mono hbx.size)
  have p0 : w1.cell? ⟨w.heap.size, 0, none⟩ = some (.slice a l.length cap) := cell_stays hb1 (by simp [go_sem])
  clear hb1 hbx
  rcases hx with ⟨rfl, hno⟩ | ⟨n, rfl, hn, hkm, hfirst⟩
  · clear hc
    go_wp2
    go_ret
    exact ⟨_, rfl, .inl ⟨rfl, hno⟩, b1⟩
  · obtain ⟨b, off, rfl, hlo, hhi, hcc⟩ := hc (by omega)
    obtain ⟨c0, c1, ca, cb, c2, c3⟩ := hcc n hn
    obtain ⟨a2, cap2, e2, hm2, hc2⟩ := c3
    injection e2 with e2a e2b e2c
    subst e2a e2c
    have hpos := (hs.2 n hn).2.2.1
    obtain ⟨b2, off2, rfl, _, _, hcc2⟩ := hc2 (by omega)
    have d0 := hcc2 ((cAt l n).l.length - 1) (by omega)
    have k0 := cell_regrown p0
    have k1 := cell_regrown (cell_stays b1 c2)
    have k2 := cell_regrown (cell_stays b1 d0.1)
    clear e2b hcc hc c0 c1 hc2 hcc2 d0 c2
    unfold maxLen at hm2
    have n0 : (0 : Int) ≤ (n : Int) := by omega
    have n1 : (n : Int) < (l.length : Int) := by omega
    have n2 : (1 : Int) ≤ ((cAt l n).l.length : Int) := by omega
    go_wp2_with fail
    refine wp_region_quiet_below (by kernel_rfl) (by kernel_rfl) ?_
    repeat (go_big_quiet_step (fail))
    refine wpQuiet_nil ?_
    intro w2 hw2
    obtain ⟨⟨dq, osq⟩, hw3⟩ := hw2
    have hb2 : Below _ _ w2 := hw3 ▸ below_regrown _ dq osq
    clear hw3
    go_wp2
    go_ret
    exact ⟨_, rfl, .inr ⟨n, hn, hkm, hfirst, rfl⟩, b1.trans (hb2.mono b1.size)⟩

/-- What LastAt answers. -/
def LAns (l : List Ch) (t r : Int) (x : Int) : Prop := (¬ (storeOk l ∧ tabB t = true) ∧ x = -1) ∨ ((storeOk l ∧ tabB t = true) ∧ IsLastAt l t r x)
theorem LAns.one {l : List Ch} {t r x y : Int} (hx : LAns l t r x) (hy : LAns l t r y) : x = y := by
  rcases hx with ⟨h1, rfl⟩ | ⟨h1, hx⟩ <;> rcases hy with ⟨g1, rfl⟩ | ⟨g1, hy⟩
  · rfl
  · exact absurd g1 h1
  · exact absurd h1 g1
  · exact hx.one hy

set_option maxHeartbeats 1000000 in
theorem specLastAt_any (v : Value) (l : List Ch) (t r : Int) (w : World) {lo hi : Nat} (hl : ChainsAt lo hi w v l) :
    Calls Try.prog 8 #[.agg #[v], .agg #[.int .i64 t, .int .i64 r]] w fun e w' => ∃ x, e = .returned (.int .i64 x) ∧ LAns l t r x ∧ Below w.heap.size w w' := by
  obtain ⟨a, cap, hv⟩ : ∃ a cap, v = .slice a l.length cap := by obtain ⟨a, cap, h1, _⟩ := hl; exact ⟨a, cap, h1⟩
  subst hv
  have hbx : Below w.heap.size w ((w.alloc (Obj.cells #[Value.slice a l.length cap] 31)).alloc (Obj.cells #[.int .i64 t, .int .i64 r] 33)) := ((Below.refl _ _).alloc (Nat.le_refl _) _).alloc (by simp) _
  go_enter Try.func8, Try.ntmps8
  go_wp2_with fail
  refine (specStoreOk_any _ l _ (hl.stays hbx)).mono ?_
  rintro e w1 ⟨⟨q, rfl, hq⟩, hb1⟩
  have b1 := hbx.trans (hb1.mono hbx.size)
  have p0 : w1.cell? ⟨w.heap.size, 0, none⟩ = some (.slice a l.length cap) := cell_stays hb1 (by simp [go_sem])
  have p1 : w1.cell? ⟨w.heap.size + 1, 0, none⟩ = some (.int .i64 t) := cell_stays hb1 (by simp [go_sem])
  have p2 : w1.cell? ⟨w.heap.size + 1, 1, none⟩ = some (.int .i64 r) := cell_stays hb1 (by simp [go_sem])
  clear hb1 hbx
  by_cases hs : storeOk l
  · obtain rfl := hq.2 hs
    clear hq
    by_cases ht : tabB t = true
    · go_wp2_with (first | (go_at_call 28; refine (l1table_any _ _ _).mono ?_; rintro e w2 ⟨rfl, hb2⟩; have p20 := cell_stays hb2 p0; have p21 := cell_stays hb2 p1; have p22 := cell_stays hb2 p2))
      have b2 := b1.trans (hb2.mono b1.size)
      refine (l1last_any _ l t r _ (hl.stays b2) hs).mono ?_
      rintro e w3 ⟨x, rfl, hx, hb3⟩
      go_wp2
      go_ret
      exact ⟨_, rfl, .inr ⟨⟨hs, ht⟩, hx⟩, b2.trans (hb3.mono b2.size)⟩
    · have ht' : tabB t = false := by simpa using ht
      go_wp2_with (first | (go_at_call 28; refine (l1table_any _ _ _).mono ?_; rintro e w2 ⟨rfl, hb2⟩))
      go_ret
      exact ⟨_, rfl, .inl ⟨fun h => ht h.2, rfl⟩, b1.trans (hb2.mono b1.size)⟩
  · obtain rfl := says_false hq hs
    clear hq
    go_wp2
    go_ret
    exact ⟨_, rfl, .inl ⟨fun h => hs h.1, rfl⟩, b1⟩

theorem field_at (x y : Int) (w : World) : (Instr.field 56 (.agg #[.int .i64 x, .int .i64 y]) 0).run Try.prog w = .ok (.int .i64 x) w := by kernel_rfl

theorem byKey_last {lo hi : Nat} {w : World} {l : List Ch} {f : Int → Int → Option Value} (hs : storeOk l) (h : ByKey lo hi w l l.length f) (t r : Int) :
    ∃ (L : List Vr) (a : Option Addr) (c : Nat), (f t r).getD (.slice none 0 0) = .slice a L.length c ∧ VersAt lo hi w (.slice a L.length c) L ∧ ∀ k, IsUntil L 1000000 k → IsLastAt l t r (rdV L k).1 := by
  rcases h t r with ⟨h1, h2⟩ | ⟨i, h1, h2, h3, a, c, h4, h5⟩
  · refine ⟨[], none, 0, by rw [h1]; rfl, ⟨none, 0, rfl, Nat.zero_le _, fun h => absurd h (Nat.lt_irrefl _)⟩, fun k hk => ?_⟩
    have := hk.1
    obtain rfl : k = 0 := by simpa using this
    exact .inl ⟨rfl, h2⟩
  · refine ⟨(cAt l i).l, a, c, by rw [h4]; rfl, h5, fun k hk => ?_⟩
    have hv := (hs.2 i h1).2.2
    have hk1 := hk.1
    have hfull : k = (cAt l i).l.length := by
      rcases Nat.lt_or_ge k (cAt l i).l.length with hlt | hge
      · have h6 := hk.2.2 hlt
        have h7 := (hv.2.2 k hlt).2.1
        omega
      · omega
    subst hfull
    refine .inr ⟨i, h1, h2, fun j hj hk' => by have := keys_one hs (by omega) h1 hk' h2; omega, ?_⟩
    have := hv.1
    simp [rdV, show ¬ (cAt l i).l.length = 0 by omega]

set_option maxHeartbeats 1000000 in
theorem implLastAt_any (v : Value) (l : List Ch) (t r : Int) (w : World) {lo hi : Nat} (hl : ChainsAt lo hi w v l) (hw : WfCh l) (wt : wf t) (wr : wf r) (hn : l.length ≤ 1048576) :
    Calls Try.prog 11 #[.agg #[v], .agg #[.int .i64 t, .int .i64 r]] w fun e w' => ∃ x, e = .returned (.int .i64 x) ∧ LAns l t r x ∧ Below w.heap.size w w' := by
  obtain ⟨a, cap, hv⟩ : ∃ a cap, v = .slice a l.length cap := by obtain ⟨a, cap, h1, _⟩ := hl; exact ⟨a, cap, h1⟩
  subst hv
  have hbx : Below w.heap.size w ((w.alloc (Obj.cells #[Value.slice a l.length cap] 31)).alloc (Obj.cells #[.int .i64 t, .int .i64 r] 33)) := ((Below.refl _ _).alloc (Nat.le_refl _) _).alloc (by simp) _
  go_enter Try.func11, Try.ntmps11
  go_wp2_with fail
  refine (implStoreOk_any _ l _ (hl.stays hbx)).mono ?_
  rintro e w1 ⟨⟨q, rfl, hq⟩, hb1⟩
  have b1 := hbx.trans (hb1.mono hbx.size)
  have p0 : w1.cell? ⟨w.heap.size, 0, none⟩ = some (.slice a l.length cap) := cell_stays hb1 (by simp [go_sem])
  have p1 : w1.cell? ⟨w.heap.size + 1, 0, none⟩ = some (.int .i64 t) := cell_stays hb1 (by simp [go_sem])
  have p2 : w1.cell? ⟨w.heap.size + 1, 1, none⟩ = some (.int .i64 r) := cell_stays hb1 (by simp [go_sem])
  clear hb1 hbx
  by_cases hs : storeOk l
  · obtain rfl := hq.2 hs
    clear hq
    by_cases ht : tabB t = true
    · go_wp2_with (first | (go_at_call 32; refine (isTable_any _ _).mono ?_; rintro e w2 ⟨rfl, rfl⟩))
      have z2 : w.heap.size + 1 < w2.heap.size := cell_lt p1
      have hfld := field_at
      have hS2 : Boxes w a l.length cap t r w2 := ⟨b1, z2, p0, p1, p2⟩
      go_region_held3 (fun x => Below w.heap.size w x ∧ w.heap.size + 1 < x.heap.size ∧ x.cell? ⟨w.heap.size, 0, none⟩ = some (.slice a l.length cap) ∧ x.cell? ⟨w.heap.size + 1, 0, none⟩ = some (.int .i64 t) ∧ x.cell? ⟨w.heap.size + 1, 1, none⟩ = some (.int .i64 r))
        (first | assumption | exact hS6 | exact hS5 | exact hS2.kept (Below.refl _ _).drew)
        (first | (go_at_call 34; refine (chainsByKey_any _ l _ (hl.stays b1.drew) hw hn).mono ?_; rintro e w5 ⟨bm, D, f, rfl, hown, hat, hby, hbm, hb5⟩; have hlk := look_vers hown hat wt wr; obtain ⟨L, la, lc, hL, hvL, hrd⟩ := byKey_last hs hby t r; rw [hL] at hlk; have hvL5 := hvL.stays hb5; have hS5 : Boxes w a l.length cap t r w5 := (hS2.kept (Below.refl _ _).drew).kept hb5) | (go_at_call 33; refine (verAt_any _ L _ _ hvL5).mono ?_; rintro e w6 ⟨k, rfl, hk, hb6⟩; have hS6 : Boxes w a l.length cap t r w6 := hS5.kept hb6))
      all_goals
        go_wp2
        go_ret
        exact ⟨_, rfl, .inr ⟨⟨hs, ht⟩, hrd k hk⟩, hS6.1⟩
    · have ht' : tabB t = false := by simpa using ht
      go_wp2_with (first | (go_at_call 32; refine (isTable_any _ _).mono ?_; rintro e w2 ⟨rfl, rfl⟩))
      go_ret
      exact ⟨_, rfl, .inl ⟨fun h => ht h.2, rfl⟩, b1⟩
  · obtain rfl := says_false hq hs
    clear hq
    go_wp2
    go_ret
    exact ⟨_, rfl, .inl ⟨fun h => hs h.1, rfl⟩, b1⟩

end Go.Proofs.Ytgpmdcilapgfpaj
