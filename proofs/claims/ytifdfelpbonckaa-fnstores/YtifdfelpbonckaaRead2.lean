/- Both ReadAt functions answer what the versions say. -/
import Derived.Test.YtifdfelpbonckaaRead1
namespace Go.Proofs.Ytifdfelpbonckaa
open Go.ChangeShapes Go.WideShapes Go.ChangeAt Go.RowKit Go.Sort Go.Maps
set_option linter.unusedVariables false
set_option maxRecDepth 100000
attribute [local go_sem ↓] Go.wp_at_zero Go.wp_at_succ

set_option maxHeartbeats 1000000 in
theorem specReadAt_any (v : Value) (l : List Ch) (t r h : Int) (w : World) {lo hi : Nat} (hl : ChainsAt lo hi w v l) :
    Calls Try.prog 20 #[.agg #[v], .agg #[.int .i64 t, .int .i64 r], .int .i64 h] w fun e w' => ∃ p : Int × Int, e = .returned (.tuple #[.int .i64 p.1, .int .i64 p.2]) ∧ RAns l t r h p ∧ Below w.heap.size w w' := by
  obtain ⟨a, cap, hv⟩ : ∃ a cap, v = .slice a l.length cap := by obtain ⟨a, cap, h1, _⟩ := hl; exact ⟨a, cap, h1⟩
  subst hv
  have hbx : Below w.heap.size w ((w.alloc (Obj.cells #[Value.slice a l.length cap] 25)).alloc (Obj.cells #[.int .i64 t, .int .i64 r] 36)) := ((Below.refl _ _).alloc (Nat.le_refl _) _).alloc (by simp) _
  go_enter Try.func20, Try.ntmps20
  go_wp2_with fail
  refine (specStoreOk_any _ l _ (hl.stays hbx)).mono ?_
  rintro e w1 ⟨⟨q, rfl, hq⟩, hb1⟩
  have b1 := hbx.trans (hb1.mono hbx.size)
  have p0 : w1.cell? ⟨w.heap.size, 0, none⟩ = some (.slice a l.length cap) := cell_stays hb1 (by simp [go_sem])
  have p1 : w1.cell? ⟨w.heap.size + 1, 0, none⟩ = some (.int .i64 t) := cell_stays hb1 (by simp [go_sem])
  have p2 : w1.cell? ⟨w.heap.size + 1, 1, none⟩ = some (.int .i64 r) := cell_stays hb1 (by simp [go_sem])
  clear hb1 hbx
  by_cases hs : storeOk l
  · obtain rfl := hq.2 hs
    clear hq
    by_cases hh : hourB h = true
    · by_cases ht : tabB t = true
      · go_wp2_with (first | (go_at_call 38; refine (l1hour_any _ _).mono ?_; rintro e w2 ⟨rfl, rfl⟩) | (go_at_call 39; refine (l1table_any _ _ _).mono ?_; rintro e w2 ⟨rfl, hb2⟩; have p20 := cell_stays hb2 p0; have p21 := cell_stays hb2 p1; have p22 := cell_stays hb2 p2))
        have b2 := b1.trans (hb2.mono b1.size)
        refine (l1read_any _ l t r h _ (hl.stays b2)).mono ?_
        rintro e w3 ⟨x, rfl, hx, hb3⟩
        have b3 := b2.trans (hb3.mono b2.size)
        clear p20 p21 p22 p0 p1 p2
        go_wp2
        have k0 := cell_regrown (w := w3.alloc (Obj.cells #[Value.int IntKind.i64 x.1, Value.int IntKind.i64 x.2] 69)) (a := ⟨w3.heap.size, 0, none⟩) (v := .int .i64 x.1) (by simp [go_sem])
        have k1 := cell_regrown (w := w3.alloc (Obj.cells #[Value.int IntKind.i64 x.1, Value.int IntKind.i64 x.2] 69)) (a := ⟨w3.heap.size, 1, none⟩) (v := .int .i64 x.2) (by simp [go_sem])
        refine wp_region_quiet_below (by kernel_rfl) (by kernel_rfl) ?_
        repeat (go_big_quiet_step (fail))
        refine wpQuiet_nil ?_
        intro w4 hw4
        obtain ⟨⟨dq, osq⟩, hw5⟩ := hw4
        have hb4 : Below _ _ w4 := hw5 ▸ below_regrown _ dq osq
        clear hw5 k0 k1
        go_wp2
        go_ret2
        exact ⟨(x.2, x.1), rfl, .inr ⟨⟨hs, hh, ht⟩, x, hx, rfl⟩, (b3.alloc b3.size _).trans (hb4.mono (by simp only [World.size_alloc]; have := b3.size; omega))⟩
      · have ht' : tabB t = false := by simpa using ht
        go_wp2_with (first | (go_at_call 38; refine (l1hour_any _ _).mono ?_; rintro e w2 ⟨rfl, rfl⟩) | (go_at_call 39; refine (l1table_any _ _ _).mono ?_; rintro e w2 ⟨rfl, hb2⟩))
        go_ret2
        exact ⟨(0, -1), rfl, .inl ⟨fun h => ht h.2.2, rfl⟩, b1.trans (hb2.mono b1.size)⟩
    · have hh' : hourB h = false := by simpa using hh
      go_wp2_with (first | (go_at_call 38; refine (l1hour_any _ _).mono ?_; rintro e w2 ⟨rfl, rfl⟩))
      go_ret2
      exact ⟨(0, -1), rfl, .inl ⟨fun h => hh h.2.1, rfl⟩, b1⟩
  · obtain rfl := says_false hq hs
    clear hq
    go_wp2
    go_ret2
    exact ⟨(0, -1), rfl, .inl ⟨fun h => hs h.1, rfl⟩, b1⟩

set_option maxHeartbeats 1000000 in
theorem implReadAt_any (v : Value) (l : List Ch) (t r h : Int) (w : World) {lo hi : Nat} (hl : ChainsAt lo hi w v l) (hw : WfCh l) (wt : wf t) (wr : wf r) (hn : l.length ≤ 1048576) :
    Calls Try.prog 14 #[.agg #[v], .agg #[.int .i64 t, .int .i64 r], .int .i64 h] w fun e w' => ∃ p : Int × Int, e = .returned (.tuple #[.int .i64 p.1, .int .i64 p.2]) ∧ RAns l t r h p ∧ Below w.heap.size w w' := by
  obtain ⟨a, cap, hv⟩ : ∃ a cap, v = .slice a l.length cap := by obtain ⟨a, cap, h1, _⟩ := hl; exact ⟨a, cap, h1⟩
  subst hv
  have hbx : Below w.heap.size w ((w.alloc (Obj.cells #[Value.slice a l.length cap] 25)).alloc (Obj.cells #[.int .i64 t, .int .i64 r] 36)) := ((Below.refl _ _).alloc (Nat.le_refl _) _).alloc (by simp) _
  go_enter Try.func14, Try.ntmps14
  go_wp2_with fail
  refine (implStoreOk_any _ l _ (hl.stays hbx)).mono ?_
  rintro e w1 ⟨⟨q, rfl, hq⟩, hb1⟩
  have b1 := hbx.trans (hb1.mono hbx.size)
  have p0 : w1.cell? ⟨w.heap.size, 0, none⟩ = some (.slice a l.length cap) := cell_stays hb1 (by simp [go_sem])
  have p1 : w1.cell? ⟨w.heap.size + 1, 0, none⟩ = some (.int .i64 t) := cell_stays hb1 (by simp [go_sem])
  have p2 : w1.cell? ⟨w.heap.size + 1, 1, none⟩ = some (.int .i64 r) := cell_stays hb1 (by simp [go_sem])
  clear hb1 hbx
  by_cases hs : storeOk l
  · obtain rfl := hq.2 hs
    clear hq
    by_cases hh : hourB h = true
    · by_cases ht : tabB t = true
      · go_wp2_with (first | (go_at_call 31; refine (isHour_any _ _).mono ?_; rintro e w2 ⟨rfl, rfl⟩) | (go_at_call 34; refine (isTable_any _ _).mono ?_; rintro e w2 ⟨rfl, rfl⟩))
        have z2 : w.heap.size + 1 < w2.heap.size := cell_lt p1
        have hS2 : Boxes w a l.length cap t r w2 := ⟨b1, z2, p0, p1, p2⟩
        go_region_held3 (fun x => Below w.heap.size w x ∧ w.heap.size + 1 < x.heap.size ∧ x.cell? ⟨w.heap.size, 0, none⟩ = some (.slice a l.length cap) ∧ x.cell? ⟨w.heap.size + 1, 0, none⟩ = some (.int .i64 t) ∧ x.cell? ⟨w.heap.size + 1, 1, none⟩ = some (.int .i64 r))
          (first | assumption | exact hS6 | exact hS5 | exact hS5.kept (below_alloc _ _) | exact (hS2.kept ((Below.refl _ _).drew.alloc (Nat.le_refl _) _)) | exact hS6.kept (below_alloc _ _) | exact hS6.set hz5 _ _ | exact hS6.set z2 _ _ | exact hS2.kept (Below.refl _ _).drew)
          (first | (go_at_call 32; refine (chainsByKey_any _ l _ (hl.stays ?_) hw hn).mono ?_; (first | exact b1.drew | exact b1.drew.alloc b1.size _); rintro e w5 ⟨bm, D, f, rfl, hown, hat, hby, hbm, hb5⟩; have hlk := look_vers hown hat wt wr; have hlkA := fun o => look_vers (hown.alloc o) hat wt wr; obtain ⟨L, la, lc, hL, hvL, hrd⟩ := byKey_read hs hby t r; rw [hL] at hlk; simp only [hL] at hlkA; have hvL5 := hvL.stays hb5; have hz5 : w.heap.size + 1 < w5.heap.size := by { have := hb5.size; simp at this; omega }; (try have hz25 : w2.heap.size < w5.heap.size := lt_of_alloc (w := w2.drew) hb5.size); obtain ⟨hc5, hf5⟩ := bcell hb5; have hS5 : Boxes w a l.length cap t r w5 := by { first | exact (hS2.kept (Below.refl _ _).drew).kept hb5 | exact (hS2.kept ((Below.refl _ _).drew.alloc (Nat.le_refl _) _)).kept hb5 }) | (go_at_call 47; refine (verAt_any (lo := lo) (hi := hi) _ L h _ ?_).mono ?_; (first | exact hvL5 | exact hvL5.stays (below_alloc _ _)); rintro e w6 ⟨k, rfl, hk, hb5⟩; have hS6 : Boxes w a l.length cap t r w6 := by { first | exact hS5.kept hb5 | exact (hS5.kept (below_alloc _ _)).kept hb5 }; obtain ⟨hc6, hf6⟩ := bcell hb5))
        all_goals
          rename_i hH
          go_wp2
          go_region
          all_goals
            go_wp2
            go_ret2
            exact ⟨((rdV L k).2, (rdV L k).1), rfl, .inr ⟨⟨hs, hh, ht⟩, _, hrd h k hk, rfl⟩, hH.1.drew⟩
      · have ht' : tabB t = false := by simpa using ht
        go_wp2_with (first | (go_at_call 31; refine (isHour_any _ _).mono ?_; rintro e w2 ⟨rfl, rfl⟩) | (go_at_call 34; refine (isTable_any _ _).mono ?_; rintro e w2 ⟨rfl, rfl⟩))
        go_ret2
        exact ⟨(0, -1), rfl, .inl ⟨fun h => ht h.2.2, rfl⟩, b1⟩
    · have hh' : hourB h = false := by simpa using hh
      go_wp2_with (first | (go_at_call 31; refine (isHour_any _ _).mono ?_; rintro e w2 ⟨rfl, rfl⟩))
      go_ret2
      exact ⟨(0, -1), rfl, .inl ⟨fun h => hh h.2.1, rfl⟩, b1⟩
  · obtain rfl := says_false hq hs
    clear hq
    go_wp2
    go_ret2
    exact ⟨(0, -1), rfl, .inl ⟨fun h => hs h.1, rfl⟩, b1⟩

end Go.Proofs.Ytifdfelpbonckaa
