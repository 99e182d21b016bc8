/- The law FnPrunes returns true. -/
import Derived.Test.YtifdfelpbonckaaPruneP
namespace Go.Proofs.Ytifdfelpbonckaa
open Go.ChangeShapes Go.WideShapes Go.ChangeAt Go.RowKit Go.Sort
set_option linter.unusedVariables false
set_option maxRecDepth 100000
attribute [local go_sem ↓] Go.wp_at_zero Go.wp_at_succ

theorem at_any (a : Option Addr) (n cap : Nat) (w : World) (hc : BytesIn w a n) :
    Calls Try.prog 19 #[.slice a n cap, .int .i64 1] w fun e w' => (∃ x : Int, e = .returned (.int .i64 x) ∧ 0 ≤ x ∧ x ≤ 255) ∧ Below w.heap.size w w' := by
  obtain ⟨hm, hby⟩ := id hc
  unfold maxLen at hm
  go_enter Try.func19, Try.ntmps19
  by_cases h0 : n = 0
  · have h0' : ((n : Int) == 0) = true := by simp [h0]
    clear hby
    go_wp2
    go_ret
    exact ⟨⟨0, rfl, by decide, by decide⟩, Below.refl _ _⟩
  · have h0' : ((n : Int) == 0) = false := by simp [h0]
    obtain ⟨b, off, rfl, h2, h3⟩ := hby (by omega)
    obtain ⟨m, hm1, hm2⟩ : ∃ m : Nat, Int.tmod 1 (n : Int) = (m : Int) ∧ m < n := by
      by_cases e : n = 1
      · exact ⟨0, by rw [e]; rfl, by omega⟩
      · exact ⟨1, by rw [Int.tmod_eq_of_lt (by omega) (by omega)]; rfl, by omega⟩
    obtain ⟨x, x0, x1, x2⟩ := h3 m hm2
    have i1 : (m : Int) < (n : Int) := by omega
    clear hby h3
    go_wp2
    go_ret
    exact ⟨⟨_, rfl, x0, x1⟩, Below.refl _ _⟩

/-- While the law looks on: the store and the pruned one stand in their variables. -/
def PS (W : World) (bs bx : Nat) (sv xv : Value) (y : World) : Prop := Below W.heap.size W y ∧ y.cell? ⟨bs, 0, none⟩ = some sv ∧ y.cell? ⟨bx, 0, none⟩ = some xv
theorem PS.kept {W : World} {bs bx : Nat} {sv xv : Value} {y z : World} (h : PS W bs bx sv xv y) (hb : Below y.heap.size y z) : PS W bs bx sv xv z := ⟨h.1.trans (hb.mono h.1.size), cell_stays hb h.2.1, cell_stays hb h.2.2⟩

set_option maxHeartbeats 4000000 in
theorem fnPrunes_any (a : Option Addr) (n cap : Nat) (w : World) (hc : BytesIn w a n) :
    Calls Try.prog 4 #[.slice a n cap] w fun e w' => e = .returned (.bool true) ∧ Below w.heap.size w w' := by
  go_enter Try.func4, Try.ntmps4
  go_wp2_with fail
  refine (drawPrune_any a n cap _ hc).mono ?_
  rintro e w1 ⟨⟨v, l, h, rfl, hD⟩, b1⟩
  obtain ⟨hC, hn, hvn, hwf, hk⟩ := hD
  obtain ⟨av, cv, rfl⟩ : ∃ av cv, v = .slice av l.length cv := by obtain ⟨av, cv, h1, _⟩ := hC; exact ⟨av, cv, h1⟩
  have hA := below_alloc w1 (Obj.cells #[.slice av l.length cv] 25)
  have b2 := b1.trans (hA.mono b1.size)
  have p0 : (w1.alloc (Obj.cells #[.slice av l.length cv] 25)).cell? ⟨w1.heap.size, 0, none⟩ = some (.slice av l.length cv) := by simp [go_sem]
  replace hC := hC.stays hA
  replace hk := hk.stays hA
  have HW : Hid (WfCh l ∧ Small l) := ⟨hwf, by omega, fun i hi => by have := hvn i hi; omega⟩
  clear hwf hvn
  go_wp2_with fail
  refine (implPrune_any _ _ l h _ hC hk HW.out.1 HW.out.2).mono ?_
  rintro e w3 ⟨xv, out, rfl, hq, hO, hb3⟩
  have b3 := b2.trans (hb3.mono b2.size)
  replace p0 := cell_stays hb3 p0
  replace hC := hC.stays hb3
  have hc3 := hc.stays b3
  generalize w1.heap.size = bs at *
  clear hb3 b2 hA b1 hk hc
  have hso : Small out ∧ WfCh out := by
    rcases hq with ⟨_, rfl⟩ | ⟨_, rfl⟩
    · exact ⟨⟨by simp, fun i hi => absurd hi (Nat.not_lt_zero _)⟩, fun i hi => absurd hi (Nat.not_lt_zero _)⟩
    · exact ⟨small_prune HW.out.2, wf_prune HW.out.1⟩
  have hX := ownS_chains hO hso.1
  obtain ⟨ax, cx, rfl⟩ := ownS_len hO
  have HO : Hid (Small out ∧ WfCh out) := hso
  clear hO hso
  have hA := below_alloc w3 (Obj.cells #[.slice ax out.length cx] 25)
  have b4 := b3.trans (hA.mono b3.size)
  have x0 : (w3.alloc (Obj.cells #[.slice ax out.length cx] 25)).cell? ⟨w3.heap.size, 0, none⟩ = some (.slice ax out.length cx) := by simp [go_sem]
  replace p0 := cell_stays hA p0
  replace hC := hC.stays hA
  replace hc3 := hc3.stays hA
  replace hX := hX.stays hA
  go_wp2_with fail
  generalize w3.alloc (Obj.cells #[.slice ax out.length cx] 25) = W4 at *
  generalize w3.heap.size = bx at *
  refine (specStoreOk_any _ l _ hC).mono ?_
  rintro e w5 ⟨⟨q, rfl, hqs⟩, hb5⟩
  have b5 := b4.trans (hb5.mono b4.size)
  replace p0 := cell_stays hb5 p0
  replace x0 := cell_stays hb5 x0
  replace hC := hC.stays hb5
  replace hc3 := hc3.stays hb5
  replace hX := hX.stays hb5
  clear hb5 b4 b3 hA
  by_cases hs : ¬ storeOk l
  · obtain rfl : out = [] := by
      rcases hq with ⟨_, e⟩ | ⟨g, _⟩
      · exact e
      · exact absurd g.1 hs
    obtain rfl := says_false hqs hs
    clear hq hqs hC hX hc3
    go_wp2_with (go_at_call 9; refine (shelves_true _).mono ?_; rintro e w6 ⟨rfl, hb6⟩)
    go_ret
    exact ⟨rfl, b5.trans (hb6.mono b5.size)⟩
  replace hs : storeOk l := Classical.not_not.1 hs
  obtain rfl := hqs.2 hs
  by_cases h0 : h < 0
  · obtain rfl : out = [] := by
      rcases hq with ⟨_, e⟩ | ⟨g, _⟩
      · exact e
      · have := (hourB_iff h).1 g.2; omega
    clear hq hqs hC hX hc3 hs
    go_wp2_with (go_at_call 9; refine (shelves_true _).mono ?_; rintro e w6 ⟨rfl, hb6⟩)
    go_ret
    exact ⟨rfl, b5.trans (hb6.mono b5.size)⟩
  have h0' : decide (h < 0) = false := by simpa using h0
  by_cases h1 : 1000000 < h
  · obtain rfl : out = [] := by
      rcases hq with ⟨_, e⟩ | ⟨g, _⟩
      · exact e
      · have := (hourB_iff h).1 g.2; omega
    clear hq hqs hC hX hc3 hs
    go_wp2_with (go_at_call 9; refine (shelves_true _).mono ?_; rintro e w6 ⟨rfl, hb6⟩)
    go_ret
    exact ⟨rfl, b5.trans (hb6.mono b5.size)⟩
  have h1' : decide (1000000 < h) = false := by simpa using h1
  have hh : hourB h = true := by rw [hourB_iff]; omega
  obtain rfl : out = prune l h := by
    rcases hq with ⟨g, _⟩ | ⟨_, e⟩
    · exact absurd ⟨hs, hh⟩ g
    · exact e
  have HS : Hid (storeOk l) := hs
  clear hq hqs hs hh
  rw [prune_length] at x0 hX
  go_wp2_with fail
  refine (at_any a n cap _ hc3).mono ?_
  rintro e w6 ⟨⟨y, rfl, y0, y1⟩, hb6⟩
  have b6 := b5.trans (hb6.mono b5.size)
  replace p0 := cell_stays hb6 p0
  replace x0 := cell_stays hb6 x0
  replace hC := hC.stays hb6
  replace hX := hX.stays hb6
  clear hb6 b5 hc3
  have hw1 : IntKind.i64.wrap (h + y % 20) = h + y % 20 := by
    rw [IntKind.wrap_i64]
    omega
  have hgl : h ≤ h + y % 20 := by omega
  have hge : 0 ≤ h := by omega
  by_cases hgt : 1000000 < h + y % 20
  · have hgl2 : h ≤ 1000000 := by omega
    clear hgl
    have hgl := hgl2
    clear hgl2
    go_wp2_with fail
    generalize h + y % 20 = gg at *
    clear hge
    have hgm : hourB 1000000 = true := by decide
    clear y0 y1 h0 h1
    go_loopw [7] (fun i wr => ∃ k : Nat, k ≤ l.length ∧ i = .int .i64 k ∧ Below w6.heap.size w6 wr) (fun i _ => l.length - (intOf i).toNat)
    case atStart => exact ⟨0, Nat.zero_le _, rfl, Below.refl _ _⟩
    case round =>
      rename World => wo
      obtain ⟨k, hk, rfl, hb⟩ := hrel
      have p0w := cell_stays hb p0
      have x0w := cell_stays hb x0
      have hCw := hC.stays hb
      have hXw := hX.stays hb
      by_cases hlt : k < l.length
      · obtain ⟨b, off, rfl, c0, c1⟩ : ∃ b off, av = some ⟨b, off, none⟩ ∧ wo.cell? ⟨b, off + k * 3, none⟩ = some (.int .i64 (cAt l k).t) ∧ wo.cell? ⟨b, off + k * 3 + 1, none⟩ = some (.int .i64 (cAt l k).r) := by
          obtain ⟨_, _, e, _, h3⟩ := hCw
          cases e
          obtain ⟨b, off, rfl, _, _, hcc⟩ := h3 (by omega)
          exact ⟨b, off, rfl, (hcc k hlt).1, (hcc k hlt).2.1⟩
        have wk := HW.out.1 k hlt
        have i0 : (0 : Int) ≤ (k : Int) := by omega
        have i1 : (k : Int) < (l.length : Int) := by omega
        have k0 := cell_regrown c0
        have k1 := cell_regrown c1
        have k2 := cell_regrown p0w
        have k3 := cell_regrown x0w
        clear hC hX p0 x0
        go_wp2_with fail
        refine wp_region_quiet_below (by kernel_rfl) (by kernel_rfl) ?_
        repeat (go_big_quiet_step (first | (go_at_call 14; exact Calls.regrown_of (implReadAt_pr _ l _ _ h 1000000 _ (hXw.stays (below_regrown _ _ _)) HS.out hgl HW.out.1 wk.1 wk.2 HW.out.2.1)) | (go_at_call 20; exact Calls.regrown_of (specReadAt_is _ l _ _ 1000000 _ (hCw.stays (below_regrown _ _ _)))) | (go_at_call 15; exact Calls.regrown_of (implLastAt_pr _ l _ _ h _ (hXw.stays (below_regrown _ _ _)) HS.out HW.out.1 wk.1 wk.2 HW.out.2.1)) | (go_at_call 21; exact Calls.regrown_of (specLastAt_is _ l _ _ _ (hCw.stays (below_regrown _ _ _))))))
        refine wpQuiet_nil ?_
        intro w8 hw8
        obtain ⟨⟨d8, o8⟩, hw8'⟩ := hw8
        have hb8 : Below _ _ w8 := hw8' ▸ below_regrown _ d8 o8
        clear hw8'
        replace hb := hb.trans (hb8.mono hb.size)
        replace k0 := cell_regrown (cell_stays hb8 c0)
        replace k1 := cell_regrown (cell_stays hb8 c1)
        replace k2 := cell_regrown (cell_stays hb8 p0w)
        replace k3 := cell_regrown (cell_stays hb8 x0w)
        replace c0 := cell_stays hb8 c0
        replace c1 := cell_stays hb8 c1
        replace p0w := cell_stays hb8 p0w
        replace x0w := cell_stays hb8 x0w
        replace hCw := hCw.stays hb8
        replace hXw := hXw.stays hb8
        clear hb8
        go_wp2_with fail
        refine wp_region_quiet_below (by kernel_rfl) (by kernel_rfl) ?_
        repeat (go_big_quiet_step (first | (go_at_call 14; exact Calls.regrown_of (implReadAt_pr _ l _ _ h 1000000 _ (hXw.stays (below_regrown _ _ _)) HS.out hgl HW.out.1 wk.1 wk.2 HW.out.2.1)) | (go_at_call 20; exact Calls.regrown_of (specReadAt_is _ l _ _ 1000000 _ (hCw.stays (below_regrown _ _ _)))) | (go_at_call 15; exact Calls.regrown_of (implLastAt_pr _ l _ _ h _ (hXw.stays (below_regrown _ _ _)) HS.out HW.out.1 wk.1 wk.2 HW.out.2.1)) | (go_at_call 21; exact Calls.regrown_of (specLastAt_is _ l _ _ _ (hCw.stays (below_regrown _ _ _))))))
        refine wpQuiet_nil ?_
        intro w9 hw9
        obtain ⟨⟨d9, o9⟩, hw9'⟩ := hw9
        have hb9 : Below _ _ w9 := hw9' ▸ below_regrown _ d9 o9
        clear hw9'
        replace hb := hb.trans (hb9.mono hb.size)
        replace k0 := cell_regrown (cell_stays hb9 c0)
        replace k1 := cell_regrown (cell_stays hb9 c1)
        replace k2 := cell_regrown (cell_stays hb9 p0w)
        replace k3 := cell_regrown (cell_stays hb9 x0w)
        replace c0 := cell_stays hb9 c0
        replace c1 := cell_stays hb9 c1
        replace p0w := cell_stays hb9 p0w
        replace x0w := cell_stays hb9 x0w
        replace hCw := hCw.stays hb9
        replace hXw := hXw.stays hb9
        clear hb9
        go_wp2_with fail
        refine wp_region_quiet_below (by kernel_rfl) (by kernel_rfl) ?_
        repeat (go_big_quiet_step (first | (go_at_call 14; exact Calls.regrown_of (implReadAt_pr _ l _ _ h 1000000 _ (hXw.stays (below_regrown _ _ _)) HS.out hgl HW.out.1 wk.1 wk.2 HW.out.2.1)) | (go_at_call 20; exact Calls.regrown_of (specReadAt_is _ l _ _ 1000000 _ (hCw.stays (below_regrown _ _ _)))) | (go_at_call 15; exact Calls.regrown_of (implLastAt_pr _ l _ _ h _ (hXw.stays (below_regrown _ _ _)) HS.out HW.out.1 wk.1 wk.2 HW.out.2.1)) | (go_at_call 21; exact Calls.regrown_of (specLastAt_is _ l _ _ _ (hCw.stays (below_regrown _ _ _))))))
        refine wpQuiet_nil ?_
        intro w10 hw10
        obtain ⟨⟨d10, o10⟩, hw10'⟩ := hw10
        have hb10 : Below _ _ w10 := hw10' ▸ below_regrown _ d10 o10
        clear hw10'
        replace hb := hb.trans (hb10.mono hb.size)
        replace k0 := cell_regrown (cell_stays hb10 c0)
        replace k1 := cell_regrown (cell_stays hb10 c1)
        replace k2 := cell_regrown (cell_stays hb10 p0w)
        replace k3 := cell_regrown (cell_stays hb10 x0w)
        replace c0 := cell_stays hb10 c0
        replace c1 := cell_stays hb10 c1
        replace p0w := cell_stays hb10 p0w
        replace x0w := cell_stays hb10 x0w
        replace hCw := hCw.stays hb10
        replace hXw := hXw.stays hb10
        clear hb10
        go_wp2
        go_roundw
        case rel => exact ⟨k + 1, by omega, by go_num, hb⟩
        case measure => simp [intOf]; omega
      · have hP : PS wo bs bx (.slice av l.length cv) (.slice ax l.length cx) wo := ⟨Below.refl _ _, p0w, x0w⟩
        have b7 := b6.trans (hb.mono b6.size)
        clear hC hX p0 x0
        go_wp2_with fail
        go_region_held3 (fun y => Below wo.heap.size wo y ∧ y.cell? ⟨bs, 0, none⟩ = some (.slice av l.length cv) ∧ y.cell? ⟨bx, 0, none⟩ = some (.slice ax l.length cx))
          (first | assumption | exact S1 | exact S2 | exact S3 | exact S4 | exact S5 | exact hP.kept (Below.refl _ _).drew)
          (first | (go_at_call 10; refine (implStoreOk_any _ (prune l h) _ (hXw.stays (Below.refl _ _).drew)).mono ?_; rintro e wA ⟨⟨qA, rfl, hqA⟩, hbA⟩; obtain rfl := hqA.2 (storeOk_prune HS.out); clear hqA; have S1 : PS wo bs bx (.slice av l.length cv) (.slice ax l.length cx) wA := (hP.kept (Below.refl _ _).drew).kept hbA) | (go_at_call 12; refine (implStateAt_any _ (prune l h) 1000000 _ (hXw.stays S1.1)).mono ?_; rintro e wI ⟨rsI, vI, rfl, haI, hoI, hbI⟩; have S2 : PS wo bs bx (.slice av l.length cv) (.slice ax l.length cx) wI := S1.kept hbI; have hRI := hoI.rows (by have := haI.len; omega)) | (go_at_call 13; refine (specStateAt_any _ l 1000000 _ (hCw.stays S2.1)).mono ?_; rintro e wS ⟨rsS, vS, rfl, haS, hoS, hbS⟩; have S3 : PS wo bs bx (.slice av l.length cv) (.slice ax l.length cx) wS := S2.kept hbS; obtain rfl := haI.prune HS.out hgl haS; have hRS := hoS.rows (by have := haS.len; omega)) | (go_at_call 11; refine (sameRows_same _ _ _ _ (hRI.stays hbS) hRS).mono ?_; rintro e wE ⟨rfl, hbE⟩; have S4 : PS wo bs bx (.slice av l.length cv) (.slice ax l.length cx) wE := S3.kept hbE) | (go_at_call 9; refine (shelves_true _).mono ?_; rintro e wF ⟨rfl, hbF⟩; have S5 : PS wo bs bx (.slice av l.length cv) (.slice ax l.length cx) wF := S4.kept hbF))
        go_wp2
        go_ret
        exact ⟨rfl, b7.trans (S5.1.mono b7.size)⟩
  · have hgt' : decide (1000000 < h + y % 20) = false := by simpa using hgt
    have hgg : h + y % 20 ≤ 1000000 := by omega
    go_wp2_with fail
    generalize h + y % 20 = gg at *
    have hgm : hourB gg = true := by rw [hourB_iff]; omega
    clear y0 y1 h0 h1
    go_loopw [7] (fun i wr => ∃ k : Nat, k ≤ l.length ∧ i = .int .i64 k ∧ Below w6.heap.size w6 wr) (fun i _ => l.length - (intOf i).toNat)
    case atStart => exact ⟨0, Nat.zero_le _, rfl, Below.refl _ _⟩
    case round =>
      rename World => wo
      obtain ⟨k, hk, rfl, hb⟩ := hrel
      have p0w := cell_stays hb p0
      have x0w := cell_stays hb x0
      have hCw := hC.stays hb
      have hXw := hX.stays hb
      by_cases hlt : k < l.length
      · obtain ⟨b, off, rfl, c0, c1⟩ : ∃ b off, av = some ⟨b, off, none⟩ ∧ wo.cell? ⟨b, off + k * 3, none⟩ = some (.int .i64 (cAt l k).t) ∧ wo.cell? ⟨b, off + k * 3 + 1, none⟩ = some (.int .i64 (cAt l k).r) := by
          obtain ⟨_, _, e, _, h3⟩ := hCw
          cases e
          obtain ⟨b, off, rfl, _, _, hcc⟩ := h3 (by omega)
          exact ⟨b, off, rfl, (hcc k hlt).1, (hcc k hlt).2.1⟩
        have wk := HW.out.1 k hlt
        have i0 : (0 : Int) ≤ (k : Int) := by omega
        have i1 : (k : Int) < (l.length : Int) := by omega
        have k0 := cell_regrown c0
        have k1 := cell_regrown c1
        have k2 := cell_regrown p0w
        have k3 := cell_regrown x0w
        clear hC hX p0 x0
        go_wp2_with fail
        refine wp_region_quiet_below (by kernel_rfl) (by kernel_rfl) ?_
        repeat (go_big_quiet_step (first | (go_at_call 14; exact Calls.regrown_of (implReadAt_pr _ l _ _ h gg _ (hXw.stays (below_regrown _ _ _)) HS.out hgl HW.out.1 wk.1 wk.2 HW.out.2.1)) | (go_at_call 20; exact Calls.regrown_of (specReadAt_is _ l _ _ gg _ (hCw.stays (below_regrown _ _ _)))) | (go_at_call 15; exact Calls.regrown_of (implLastAt_pr _ l _ _ h _ (hXw.stays (below_regrown _ _ _)) HS.out HW.out.1 wk.1 wk.2 HW.out.2.1)) | (go_at_call 21; exact Calls.regrown_of (specLastAt_is _ l _ _ _ (hCw.stays (below_regrown _ _ _))))))
        refine wpQuiet_nil ?_
        intro w8 hw8
        obtain ⟨⟨d8, o8⟩, hw8'⟩ := hw8
        have hb8 : Below _ _ w8 := hw8' ▸ below_regrown _ d8 o8
        clear hw8'
        replace hb := hb.trans (hb8.mono hb.size)
        replace k0 := cell_regrown (cell_stays hb8 c0)
        replace k1 := cell_regrown (cell_stays hb8 c1)
        replace k2 := cell_regrown (cell_stays hb8 p0w)
        replace k3 := cell_regrown (cell_stays hb8 x0w)
        replace c0 := cell_stays hb8 c0
        replace c1 := cell_stays hb8 c1
        replace p0w := cell_stays hb8 p0w
        replace x0w := cell_stays hb8 x0w
        replace hCw := hCw.stays hb8
        replace hXw := hXw.stays hb8
        clear hb8
        go_wp2_with fail
        refine wp_region_quiet_below (by kernel_rfl) (by kernel_rfl) ?_
        repeat (go_big_quiet_step (first | (go_at_call 14; exact Calls.regrown_of (implReadAt_pr _ l _ _ h gg _ (hXw.stays (below_regrown _ _ _)) HS.out hgl HW.out.1 wk.1 wk.2 HW.out.2.1)) | (go_at_call 20; exact Calls.regrown_of (specReadAt_is _ l _ _ gg _ (hCw.stays (below_regrown _ _ _)))) | (go_at_call 15; exact Calls.regrown_of (implLastAt_pr _ l _ _ h _ (hXw.stays (below_regrown _ _ _)) HS.out HW.out.1 wk.1 wk.2 HW.out.2.1)) | (go_at_call 21; exact Calls.regrown_of (specLastAt_is _ l _ _ _ (hCw.stays (below_regrown _ _ _))))))
        refine wpQuiet_nil ?_
        intro w9 hw9
        obtain ⟨⟨d9, o9⟩, hw9'⟩ := hw9
        have hb9 : Below _ _ w9 := hw9' ▸ below_regrown _ d9 o9
        clear hw9'
        replace hb := hb.trans (hb9.mono hb.size)
        replace k0 := cell_regrown (cell_stays hb9 c0)
        replace k1 := cell_regrown (cell_stays hb9 c1)
        replace k2 := cell_regrown (cell_stays hb9 p0w)
        replace k3 := cell_regrown (cell_stays hb9 x0w)
        replace c0 := cell_stays hb9 c0
        replace c1 := cell_stays hb9 c1
        replace p0w := cell_stays hb9 p0w
        replace x0w := cell_stays hb9 x0w
        replace hCw := hCw.stays hb9
        replace hXw := hXw.stays hb9
        clear hb9
        go_wp2_with fail
        refine wp_region_quiet_below (by kernel_rfl) (by kernel_rfl) ?_
        repeat (go_big_quiet_step (first | (go_at_call 14; exact Calls.regrown_of (implReadAt_pr _ l _ _ h gg _ (hXw.stays (below_regrown _ _ _)) HS.out hgl HW.out.1 wk.1 wk.2 HW.out.2.1)) | (go_at_call 20; exact Calls.regrown_of (specReadAt_is _ l _ _ gg _ (hCw.stays (below_regrown _ _ _)))) | (go_at_call 15; exact Calls.regrown_of (implLastAt_pr _ l _ _ h _ (hXw.stays (below_regrown _ _ _)) HS.out HW.out.1 wk.1 wk.2 HW.out.2.1)) | (go_at_call 21; exact Calls.regrown_of (specLastAt_is _ l _ _ _ (hCw.stays (below_regrown _ _ _))))))
        refine wpQuiet_nil ?_
        intro w10 hw10
        obtain ⟨⟨d10, o10⟩, hw10'⟩ := hw10
        have hb10 : Below _ _ w10 := hw10' ▸ below_regrown _ d10 o10
        clear hw10'
        replace hb := hb.trans (hb10.mono hb.size)
        replace k0 := cell_regrown (cell_stays hb10 c0)
        replace k1 := cell_regrown (cell_stays hb10 c1)
        replace k2 := cell_regrown (cell_stays hb10 p0w)
        replace k3 := cell_regrown (cell_stays hb10 x0w)
        replace c0 := cell_stays hb10 c0
        replace c1 := cell_stays hb10 c1
        replace p0w := cell_stays hb10 p0w
        replace x0w := cell_stays hb10 x0w
        replace hCw := hCw.stays hb10
        replace hXw := hXw.stays hb10
        clear hb10
        go_wp2
        go_roundw
        case rel => exact ⟨k + 1, by omega, by go_num, hb⟩
        case measure => simp [intOf]; omega
      · have hP : PS wo bs bx (.slice av l.length cv) (.slice ax l.length cx) wo := ⟨Below.refl _ _, p0w, x0w⟩
        have b7 := b6.trans (hb.mono b6.size)
        clear hC hX p0 x0
        go_wp2_with fail
        go_region_held3 (fun y => Below wo.heap.size wo y ∧ y.cell? ⟨bs, 0, none⟩ = some (.slice av l.length cv) ∧ y.cell? ⟨bx, 0, none⟩ = some (.slice ax l.length cx))
          (first | assumption | exact S1 | exact S2 | exact S3 | exact S4 | exact S5 | exact hP.kept (Below.refl _ _).drew)
          (first | (go_at_call 10; refine (implStoreOk_any _ (prune l h) _ (hXw.stays (Below.refl _ _).drew)).mono ?_; rintro e wA ⟨⟨qA, rfl, hqA⟩, hbA⟩; obtain rfl := hqA.2 (storeOk_prune HS.out); clear hqA; have S1 : PS wo bs bx (.slice av l.length cv) (.slice ax l.length cx) wA := (hP.kept (Below.refl _ _).drew).kept hbA) | (go_at_call 12; refine (implStateAt_any _ (prune l h) gg _ (hXw.stays S1.1)).mono ?_; rintro e wI ⟨rsI, vI, rfl, haI, hoI, hbI⟩; have S2 : PS wo bs bx (.slice av l.length cv) (.slice ax l.length cx) wI := S1.kept hbI; have hRI := hoI.rows (by have := haI.len; omega)) | (go_at_call 13; refine (specStateAt_any _ l gg _ (hCw.stays S2.1)).mono ?_; rintro e wS ⟨rsS, vS, rfl, haS, hoS, hbS⟩; have S3 : PS wo bs bx (.slice av l.length cv) (.slice ax l.length cx) wS := S2.kept hbS; obtain rfl := haI.prune HS.out hgl haS; have hRS := hoS.rows (by have := haS.len; omega)) | (go_at_call 11; refine (sameRows_same _ _ _ _ (hRI.stays hbS) hRS).mono ?_; rintro e wE ⟨rfl, hbE⟩; have S4 : PS wo bs bx (.slice av l.length cv) (.slice ax l.length cx) wE := S3.kept hbE) | (go_at_call 9; refine (shelves_true _).mono ?_; rintro e wF ⟨rfl, hbF⟩; have S5 : PS wo bs bx (.slice av l.length cv) (.slice ax l.length cx) wF := S4.kept hbF))
        go_wp2
        go_ret
        exact ⟨rfl, b7.trans (S5.1.mono b7.size)⟩

end Go.Proofs.Ytifdfelpbonckaa
