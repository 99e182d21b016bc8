import Derived.Test.YtmecbppblbmchaaGreatDoorZ6
import Derived.Test.YtmecbppblbmchaaGreatDoorSpecPrune2
import Derived.Test.YtmecbppblbmchaaGreatDoorExBegin
/- For every state of the whole, where the cell of errors.As is laid, the exact law of Commit returns true. -/
namespace Go.Proofs.YtmecbppblbmchaaGreatDoor
open Go.ChangeShapes Go.WideShapes Go.ChangeAt Go.RowKit Go.Sort
set_option linter.unusedVariables false
set_option maxRecDepth 100000
attribute [local go_sem ↓] Go.wp_at_zero Go.wp_at_succ

theorem small_pruneC {l : List Ch} {h : Int} (hn : Small l) : Small (prune l h) := by
  refine ⟨by rw [prune_length]; exact hn.1, fun i hi => ?_⟩
  rw [prune_length] at hi
  rw [prune_at l h hi]
  show (prL _ _).length ≤ _
  rw [prL_length]
  have := hn.2 i hi
  omega
theorem RC.small {m x : Md} {tx code : Int} (h : RC m x tx code) (hn : SmallM m) : SmallM' x := by
  have h0 : SmallM' md0 := ⟨⟨by simp [md0], fun i hi => absurd hi (by simp [md0])⟩, by simp [md0], fun i hi => absurd hi (by simp [md0]), by simp [md0]⟩
  rcases h with ⟨_, _, i, o1, o2, hi, _, hI, hP, rfl, _⟩ | ⟨_, rfl, _⟩ | ⟨_, _, _, rfl, _⟩ | ⟨_, _, _, rfl, _⟩ | ⟨_, _, _, rfl, _⟩
  · have hs2 : Small o2 := by
      rcases hP with ⟨_, rfl⟩ | ⟨_, rfl⟩
      · exact ⟨Nat.zero_le _, fun i hi => absurd hi (Nat.not_lt_zero _)⟩
      · exact small_pruneC hI.small
    refine ⟨hs2, by have := hn.x; simp only [cmM, len_erase _ hi.1]; omega, fun j hj => ?_, by have := hn.h; simp only [cmM, List.length_append, List.length_cons, List.length_nil]; omega⟩
    simp only [cmM, len_erase _ hi.1] at hj ⊢
    rw [tAt_erase]
    have := hn.w _ (skip_lt hi.1 hj)
    omega
  · exact h0
  · exact h0
  · exact h0
  · exact h0

set_option maxHeartbeats 8000000 in
theorem exactCommit_any (vs vt ve : Value) (m : Md) (tx : Int) (w : World) {lo hi : Nat} (h : MAt lo hi w vs vt ve m) (hwf : WfM m) (hL : Laid w) :
    Calls Tryz.prog 6 #[.agg #[vs, .int .i64 m.c, .int .i64 m.n, vt, ve], .int .i64 tx] w fun e w' => e = .returned (.bool true) ∧ Below w.heap.size w w' := by
  obtain ⟨a1, cap1, hv1⟩ : ∃ a cap, vs = .slice a m.s.length cap := by obtain ⟨a, cap, h1, _⟩ := h.s; exact ⟨a, cap, h1⟩
  obtain ⟨a2, cap2, hv2⟩ : ∃ a cap, vt = .slice a m.x.length cap := by obtain ⟨a, cap, h1, _⟩ := h.x; exact ⟨a, cap, h1⟩
  obtain ⟨a3, cap3, hv3⟩ : ∃ a cap, ve = .slice a m.h.length cap := by obtain ⟨a, cap, h1, _⟩ := h.h; exact ⟨a, cap, h1⟩
  subst hv1 hv2 hv3
  have b0 : Below w.heap.size w (w.alloc (Obj.cells #[Value.slice a1 m.s.length cap1, .int .i64 m.c, .int .i64 m.n, Value.slice a2 m.x.length cap2, Value.slice a3 m.h.length cap3] 28)) := (Below.refl _ _).alloc (Nat.le_refl _) _
  have p0 := MBox.new w (Value.slice a1 m.s.length cap1) m.c m.n (Value.slice a2 m.x.length cap2) (Value.slice a3 m.h.length cap3) 28
  go_enter Tryz.func6, Tryz.ntmps6
  go_wp2_with fail
  refine (szMgr_any _ _ _ m _ (h.stays b0) _ (by omega) (by omega)).mono ?_
  rintro e w1 ⟨q, rfl, hq1, hq2, hb1⟩
  have b1 := b0.trans (hb1.mono b0.size)
  have p1 := p0.stays hb1
  clear b0 p0 hb1
  by_cases hneg : q < 0
  · go_wp2
    go_ret
    exact ⟨rfl, b1⟩
  have hs := hq2 (by omega)
  clear hq2
  obtain ⟨r0, r1, r2, r3, r4⟩ := id p1
  go_wp2_with fail
  refine (toMgr_own _ _ _ m _ (h.stays b1) hs).mono ?_
  rintro e w2 ⟨bs2, Bs2, bt2, Bt2, be2, rfl, hv2, hb2⟩
  have b2 := b1.trans (hb2.mono b1.size)
  have p2 := p1.stays hb2
  have hm2 := hv2.at hs m.s.length m.x.length m.h.length
  clear b1 p1 hb2 hv2 r0 r1 r2 r3 r4
  go_wp2_with fail
  refine (specCommit_any _ _ _ m tx _ hm2 hs hwf).mono ?_
  rintro e w3 ⟨v3, o, code, rfl, ⟨s30, s31, vs3, vt3, ve3, wv3, rfl, O3⟩, hR, hb3⟩
  have HR : Hid (RC m o tx code) := hR
  have hsm := hR.small hs
  have b3 := b2.trans (hb3.mono b2.size)
  have p3 := p2.stays hb3
  have hw2 := p2.lt
  have hz3 := hb3.size
  have ow3 := O3.mat hsm
  obtain ⟨⟨a31, c31, rfl⟩, ⟨a32, c32, rfl⟩, ⟨a33, c33, rfl⟩⟩ := O3.slices
  clear b2 p2 hb3 hm2 hR O3
  have hbA := below_alM w3 (Obj.cells #[Value.slice a31 o.s.length c31, .int .i64 o.c, .int .i64 o.n, Value.slice a32 o.x.length c32, Value.slice a33 o.h.length c33] 36)
  have pw3 := MBox.new w3 (Value.slice a31 o.s.length c31) o.c o.n (Value.slice a32 o.x.length c32) (Value.slice a33 o.h.length c33) 36
  have b3' := b3.trans (hbA.mono b3.size)
  have p3' := p3.stays hbA
  have ow3' := ow3.stays hbA
  have hzA : (w3.alloc (Obj.cells #[Value.slice a31 o.s.length c31, .int .i64 o.c, .int .i64 o.n, Value.slice a32 o.x.length c32, Value.slice a33 o.h.length c33] 36)).heap.size = w3.heap.size + 1 := by simp
  obtain ⟨r0, r1, r2, r3, r4⟩ := id p3'
  clear b3 p3 ow3 hbA
  go_wp2_with fail
  generalize w3.alloc (Obj.cells #[Value.slice a31 o.s.length c31, .int .i64 o.c, .int .i64 o.n, Value.slice a32 o.x.length c32, Value.slice a33 o.h.length c33] 36) = W3 at *
  refine (toMgr_own _ _ _ m _ (h.stays b3') hs).mono ?_
  rintro e w4 ⟨bs4, Bs4, bt4, Bt4, be4, rfl, hv4, hb4⟩
  have b4 := b3'.trans (hb4.mono b3'.size)
  have pa4 := p3'.stays hb4
  have pw4 := pw3.stays hb4
  have ow4 := ow3'.stays hb4
  have hz4 := hb4.size
  have hm4 := hv4.at hs m.s.length m.x.length m.h.length
  obtain ⟨px, wvx, X4⟩ := WrM.of_copy hv4 (Nat.le_refl _) m.s.length m.x.length m.h.length
  have hbB := below_alM w4 (Obj.cells #[Value.slice (some ⟨bs4, 0, none⟩) m.s.length m.s.length, .int .i64 m.c, .int .i64 m.n, Value.slice (some ⟨bt4, 0, none⟩) m.x.length m.x.length, Value.slice (some ⟨be4, 0, none⟩) m.h.length m.h.length] 36)
  have px4 := MBox.new w4 (Value.slice (some ⟨bs4, 0, none⟩) m.s.length m.s.length) m.c m.n (Value.slice (some ⟨bt4, 0, none⟩) m.x.length m.x.length) (Value.slice (some ⟨be4, 0, none⟩) m.h.length m.h.length) 36
  have hzB : (w4.alloc (Obj.cells #[Value.slice (some ⟨bs4, 0, none⟩) m.s.length m.s.length, .int .i64 m.c, .int .i64 m.n, Value.slice (some ⟨bt4, 0, none⟩) m.x.length m.x.length, Value.slice (some ⟨be4, 0, none⟩) m.h.length m.h.length] 36)).heap.size = w4.heap.size + 1 := by simp
  clear b3' p3' pw3 ow3' hb4 hv4 r0 r1 r2 r3 r4
  go_wp2_with fail
  generalize w4.alloc (Obj.cells #[Value.slice (some ⟨bs4, 0, none⟩) m.s.length m.s.length, .int .i64 m.c, .int .i64 m.n, Value.slice (some ⟨bt4, 0, none⟩) m.x.length m.x.length, Value.slice (some ⟨be4, 0, none⟩) m.h.length m.h.length] 36) = W4 at *
  refine (implCommit_any _ _ _ m tx _ (hm4.stays hbB) hs hwf (hL.stays (b4.trans (hbB.mono b4.size)))).mono ?_
  rintro e w6 ⟨v6, o6, code6, rfl, ⟨s60, s61, vs6, vt6, ve6, wv6, rfl, O6⟩, hR6, hb6⟩
  obtain ⟨e1, e2⟩ := HR.out.one hR6
  subst e1 e2
  obtain ⟨⟨a61, c61, rfl⟩, ⟨a62, c62, rfl⟩, ⟨a63, c63, rfl⟩⟩ := O6.slices
  have hz6 := hb6.size
  have hbC := below_alM w6 (Obj.cells #[Value.slice a61 o.s.length c61, .int .i64 o.c, .int .i64 o.n, Value.slice a62 o.x.length c62, Value.slice a63 o.h.length c63] 36)
  have b46 := (hbB.trans (hb6.mono hbB.size)).trans (hbC.mono (by omega))
  have S6 : SB w (.slice a1 m.s.length cap1) (.slice a2 m.x.length cap2) (.slice a3 m.h.length cap3) m w3.heap.size (.slice a31 o.s.length c31) (.slice a32 o.x.length c32) (.slice a33 o.h.length c33) o w4.heap.size (.slice (some ⟨bs4, 0, none⟩) m.s.length m.s.length) (.slice (some ⟨bt4, 0, none⟩) m.x.length m.x.length) (.slice (some ⟨be4, 0, none⟩) m.h.length m.h.length) w6.heap.size (.slice a61 o.s.length c61) (.slice a62 o.x.length c62) (.slice a63 o.h.length c63) w2.heap.size w3.heap.size (w6.alloc (Obj.cells #[Value.slice a61 o.s.length c61, .int .i64 o.c, .int .i64 o.n, Value.slice a62 o.x.length c62, Value.slice a63 o.h.length c63] 36)) :=
    ⟨b4.trans (b46.mono b4.size), pa4.stays b46, pw4.stays b46, px4.stays (hb6.trans (hbC.mono hb6.size)), MBox.new w6 _ _ _ _ _ _, ow4.stays b46⟩
  have X6 := X4.stays b46
  have hMx6 := hm4.stays b46
  have G6 := O6.stays hbC
  have Y6 := (WrM.of_own O6).stays hbC
  have hz6' := hbC.size
  clear b4 pa4 pw4 ow4 hm4 X4 hbB px4 O6 hR6 hb6 hbC b46
  obtain ⟨_, pa, pw, px', pg, _⟩ := id S6
  obtain ⟨f0, f1, f2, f3, f4⟩ := pw
  clear pa px' pg
  go_wp2_with fail
  generalize w6.alloc (Obj.cells #[Value.slice a61 o.s.length c61, .int .i64 o.c, .int .i64 o.n, Value.slice a62 o.x.length c62, Value.slice a63 o.h.length c63] 36) = W6 at *
  refine (eqMgr_same _ _ _ _ _ _ o _ (G6.mat hsm) S6.ow).mono ?_
  rintro e w7 ⟨rfl, hb7⟩
  have S7 := S6.stays hb7
  have X7 := X6.stays hb7
  have hMx7 := hMx6.stays hb7
  have G7 := G6.stays hb7
  have Y7 := Y6.stays hb7
  have hz7 := hb7.size
  clear S6 X6 G6 Y6 hMx6 hb7 f0 f1 f2 f3 f4
  have TA : ∀ x, Below w7.heap.size w7 x → Below w.heap.size w x ∧ x.cell? ⟨w.heap.size, 0, none⟩ = some (.slice a1 m.s.length cap1) ∧ x.cell? ⟨w.heap.size, 1, none⟩ = some (.int .i64 m.c) ∧ x.cell? ⟨w.heap.size, 2, none⟩ = some (.int .i64 m.n) ∧ x.cell? ⟨w.heap.size, 3, none⟩ = some (.slice a2 m.x.length cap2) ∧ x.cell? ⟨w.heap.size, 4, none⟩ = some (.slice a3 m.h.length cap3) ∧ x.cell? ⟨w4.heap.size, 0, none⟩ = some (.slice (some ⟨bs4, 0, none⟩) m.s.length m.s.length) ∧ x.cell? ⟨w4.heap.size, 1, none⟩ = some (.int .i64 m.c) ∧ x.cell? ⟨w4.heap.size, 2, none⟩ = some (.int .i64 m.n) ∧ x.cell? ⟨w4.heap.size, 3, none⟩ = some (.slice (some ⟨bt4, 0, none⟩) m.x.length m.x.length) ∧ x.cell? ⟨w4.heap.size, 4, none⟩ = some (.slice (some ⟨be4, 0, none⟩) m.h.length m.h.length) := fun x hx => by
    obtain ⟨t0, ⟨t1, t2, t3, t4, t5⟩, _, ⟨t6, t7, t8, t9, ta⟩, _, _⟩ := S7.stays hx
    exact ⟨t0, t1, t2, t3, t4, t5, t6, t7, t8, t9, ta⟩
  go_wp2_with fail
  refine region_last (fun x => Below w.heap.size w x ∧ x.cell? ⟨w.heap.size, 0, none⟩ = some (.slice a1 m.s.length cap1) ∧ x.cell? ⟨w.heap.size, 1, none⟩ = some (.int .i64 m.c) ∧ x.cell? ⟨w.heap.size, 2, none⟩ = some (.int .i64 m.n) ∧ x.cell? ⟨w.heap.size, 3, none⟩ = some (.slice a2 m.x.length cap2) ∧ x.cell? ⟨w.heap.size, 4, none⟩ = some (.slice a3 m.h.length cap3) ∧ x.cell? ⟨w4.heap.size, 0, none⟩ = some (.slice (some ⟨bs4, 0, none⟩) m.s.length m.s.length) ∧ x.cell? ⟨w4.heap.size, 1, none⟩ = some (.int .i64 m.c) ∧ x.cell? ⟨w4.heap.size, 2, none⟩ = some (.int .i64 m.n) ∧ x.cell? ⟨w4.heap.size, 3, none⟩ = some (.slice (some ⟨bt4, 0, none⟩) m.x.length m.x.length) ∧ x.cell? ⟨w4.heap.size, 4, none⟩ = some (.slice (some ⟨be4, 0, none⟩) m.h.length m.h.length)) (by kernel_rfl) (by kernel_rfl) (by kernel_rfl) (TA _ (Below.refl _ _).drew) (fun hHeld => ?_)
  simp only [List.dropLast, List.length_cons, List.length_nil, Nat.reduceAdd]
  refine takeL (i := 0) (v := ?_) rfl (by kernel_rfl) (by kernel_rfl) (by kernel_rfl) (fun _ _ _ h => h) rfl (by assumption) ?_ ?_
  rotate_left
  · (intro wS hSw; (try dsimp only at hSw); go_simp; try with_reducible rfl)
  (try simp only [Act.put, List.setIfInBounds_toArray, List.set_cons_zero, List.set_cons_succ])
  refine takeL (i := 1) (v := ?_) rfl (by kernel_rfl) (by kernel_rfl) (by kernel_rfl) (fun _ _ _ h => h) rfl (by assumption) ?_ ?_
  rotate_left
  · (intro wS hSw; (try dsimp only at hSw); go_simp; try with_reducible rfl)
  (try simp only [Act.put, List.setIfInBounds_toArray, List.set_cons_zero, List.set_cons_succ])
  refine stepL (i := 2) rfl (by kernel_rfl) (fun K hK => ?_)
  rw [if_pos (by rfl)]
  go_simp
  refine (toMgr_own _ _ _ m _ (h.stays (TA _ (Below.refl _ _).drew).1) hs).mono ?_
  rintro e w8 ⟨bs8, Bs8, bt8, Bt8, be8, rfl, hv8, hb8⟩
  have hm8 := hv8.at hs m.s.length m.x.length m.h.length
  have t78 : Below w7.heap.size w7 w8 := (Below.refl _ _).drew.trans hb8
  refine hK.out _ _ (TA _ t78) (fun hHeld2 => ?_)
  clear hK K hHeld
  (try simp only [Act.put, List.setIfInBounds_toArray, List.set_cons_zero, List.set_cons_succ])
  refine stepL (i := 3) rfl (by kernel_rfl) (fun K hK => ?_)
  rw [if_pos (by rfl)]
  go_simp
  have hX8 := X7.stays t78
  refine (eqMgr_same _ _ _ _ _ _ m _ ((hMx7.stays t78)) hm8).mono ?_
  rintro e w9 ⟨rfl, hb9⟩
  have t79 := t78.trans (hb9.mono t78.size)
  refine hK.out _ _ (TA _ t79) (fun hHeld3 => ?_)
  clear hK K hHeld2
  (try simp only [Act.put, List.setIfInBounds_toArray, List.set_cons_zero, List.set_cons_succ])
  refine wpAnyH_done (by kernel_rfl) ?_ _
  refine lastL (n := 4) rfl rfl ?_
  go_simp
  have S9 := S7.stays t79
  have X9 := X7.stays t79
  have G9 := G7.stays t79
  have Y9 := Y7.stays t79
  have hz9 := t79.size
  clear hHeld3 TA S7 X7 G7 Y7 t78 t79 hv8 hb8 hb9 hm8 hX8 hMx7
  obtain ⟨_, pa, pw, px', pg, _⟩ := id S9
  obtain ⟨f0, f1, f2, f3, f4⟩ := px'
  clear pa pw pg
  go_wp2_with fail
  refine (markMgr_any _ W3.heap.size w4.heap.size W3.heap.size px _ _ _ m wvx X9 hs.room).mono ?_
  rintro e w10 ⟨rfl, k10, o10, t10, u10, z10, _⟩
  have S10 := S9.mark k10 o10 t10 u10 z10 (by omega) (by omega) (by omega) (by omega) (by omega)
  have G10 := G9.keep (fun k h1 h2 => k10 k (by omega) h2) z10
  have Y10 := Y9.keep (fun k h1 h2 h3 => k10 k (by omega) h3) z10
  have hnm : ¬ ((mK m : Nat) : Int) < 0 := by omega
  generalize ((mK m : Nat) : Int) = KM1 at hnm ⊢
  clear S9 X9 G9 Y9 k10 o10 t10 u10 f0 f1 f2 f3 f4
  obtain ⟨_, pa, pw, px', pg, _⟩ := id S10
  obtain ⟨f0, f1, f2, f3, f4⟩ := pw
  obtain ⟨g0, g1, g2, g3, g4⟩ := pg
  clear pa px'
  go_wp2_with fail
  refine (eqMgr_same _ _ _ _ _ _ o _ (G10.mat hsm) S10.ow).mono ?_
  rintro e w11 ⟨rfl, hb11⟩
  have S11 := S10.stays hb11
  have Y11 := Y10.stays hb11
  have hz11 := hb11.size
  clear S10 G10 Y10 hb11 f0 f1 f2 f3 f4 g0 g1 g2 g3 g4
  obtain ⟨_, pa, pw, px', pg, _⟩ := id S11
  obtain ⟨g0, g1, g2, g3, g4⟩ := pg
  clear pa px' pw
  go_wp2_with fail
  refine (markMgr_any _ _ _ _ _ _ _ _ o wv6 Y11 hsm).mono ?_
  rintro e w12 ⟨rfl, k12, o12, t12, u12, z12, K12⟩
  have S12 := S11.mark k12 o12 t12 u12 z12 (by omega) (by omega) (by omega) (by omega) (by omega)
  clear S11 Y11 k12 o12 t12 u12 g0 g1 g2 g3 g4
  obtain ⟨_, pa, pw, px', pg, _⟩ := id S12
  obtain ⟨g0, g1, g2, g3, g4⟩ := pg
  clear pa px' pw
  go_wp2_with fail
  refine (heldMgr_any _ _ _ _ _ _ _ _ o wv6 K12 hsm ⟨_, _, rfl⟩ ⟨_, _, rfl⟩ ⟨_, _, rfl⟩).mono ?_
  rintro e w13 ⟨rfl, hb13⟩
  have S13 := S12.stays hb13
  have K13 := K12.stays hb13
  have hz13 := hb13.size
  clear S12 K12 hb13 g0 g1 g2 g3 g4
  have hno : ¬ ((mK o : Nat) : Int) < 0 := by omega
  have b13 := S13.b
  obtain ⟨_, pa, pw, px', pg, _⟩ := id S13
  obtain ⟨f0, f1, f2, f3, f4⟩ := pa
  clear pg px' pw
  go_wp2_with fail
  refine (toMgr_own _ _ _ m _ (h.stays b13) hs).mono ?_
  rintro e w14 ⟨bs14, Bs14, bt14, Bt14, be14, rfl, hv14, hb14⟩
  have hm14 := hv14.at hs m.s.length m.x.length m.h.length
  have S14 := S13.stays hb14
  have K14 := K13.stays hb14
  have hz14 := hb14.size
  clear S13 K13 hb14 hv14 f0 f1 f2 f3 f4 b13
  go_wp2_with fail
  refine (implCommit_any _ _ _ m tx _ hm14 hs hwf (hL.stays S14.b)).mono ?_
  rintro e w15 ⟨v15, o15, code15, rfl, ⟨s150, s151, vs15, vt15, ve15, wv15, rfl, O15⟩, hR15, hb15⟩
  obtain ⟨e1, e2⟩ := HR.out.one hR15
  subst e1 e2
  obtain ⟨⟨a151, c151, rfl⟩, ⟨a152, c152, rfl⟩, ⟨a153, c153, rfl⟩⟩ := O15.slices
  have hz15 := hb15.size
  have hbD := below_alM w15 (Obj.cells #[Value.slice a151 o.s.length c151, .int .i64 o.c, .int .i64 o.n, Value.slice a152 o.x.length c152, Value.slice a153 o.h.length c153] 36)
  have hb16 := hb15.trans (hbD.mono hb15.size)
  have S16 := S14.stays hb16
  have K16 := K14.stays hb16
  have O16 := O15.stays hbD
  clear S14 K14 hm14 O15 hR15 hb15 hbD hb16
  obtain ⟨_, pa, pw, px', pg, _⟩ := id S16
  obtain ⟨f0, f1, f2, f3, f4⟩ := pw
  clear pg px' pa
  go_wp2_with fail
  generalize w15.alloc (Obj.cells #[Value.slice a151 o.s.length c151, .int .i64 o.c, .int .i64 o.n, Value.slice a152 o.x.length c152, Value.slice a153 o.h.length c153] 36) = W16 at *
  refine (eqMgr_same _ _ _ _ _ _ o _ (O16.mat hsm) S16.ow).mono ?_
  rintro e w17 ⟨rfl, hb17⟩
  have S17 := S16.stays hb17
  have K17 := K16.stays hb17
  clear S16 K16 O16 hb17 f0 f1 f2 f3 f4
  obtain ⟨_, pa, pw, px', pg, _⟩ := id S17
  obtain ⟨g0, g1, g2, g3, g4⟩ := pg
  clear pa px' pw
  go_wp2_with fail
  refine (heldMgr_any _ _ _ _ _ _ _ _ o wv6 K17 hsm ⟨_, _, rfl⟩ ⟨_, _, rfl⟩ ⟨_, _, rfl⟩).mono ?_
  rintro e w18 ⟨rfl, hb18⟩
  have b18 := (S17.stays hb18).b
  clear S17 K17 hb18 g0 g1 g2 g3 g4
  go_wp2
  go_ret
  exact ⟨rfl, b18⟩

set_option maxRecDepth 100000 in
theorem liftedCommit (os : Os) (started : os.Started) (H : Type) (enc : TypeId × Value → H) :
    ReturnsInHanded {} Tryz.checked os 6 .any (fun w args => (Rows.fnExactCommitSpec.pre enc Tryz.prog Tryz.f6 Rows.fnExactCommitRow.domain false w args ∧ laidMetH Tryz.prog laidL w) ∧ sizedMet enc Tryz.prog Tryz.f6 (OpenSpec.ofChange Rows.fnExactCommitSpec) false w args)
      (Rows.fnExactCommitSpec.post enc Tryz.prog Tryz.f6 false true false false) := by
  refine returnsInHanded_of_change_and (C := Tryz.checked) (X := fun w _ => laidMetH Tryz.prog laidL w) (fun _ _ _ hh h => h.of_heap hh) own started (by kernel_rfl) Tryz.func6
    (ChangeSpec.witness_at (enc := enc) (C := Tryz.checked) (os := os) (X := fun w _ => laidMetH Tryz.prog laidL w) false (laidWorld os) #[.agg #[.slice none 0 0, .int .i64 0, .int .i64 0, .slice none 0 0, .slice none 0 0], .int .i64 0] 8 rfl (by kernel_rfl) (by kernel_rfl) (by kernel_rfl) (by kernel_rfl) (by kernel_rfl) (laidWorld_met os _)) ?_
  intro W base args ds gs before hval0 hW _ _ hL _
  have hval : ∀ (j : Nat) t v, Tryz.f6.params[j]? = some t → args[j]? = some v → Value.okWide Tryz.prog W .any base t v := hval0
  have hW' := hW
  obtain ⟨p, q, hA0, hV, rfl, hfz, hnd⟩ := hW
  have hA : DataW.TrodAll enc Tryz.prog W 0 (fun _ => true) true Tryz.f6.params.toList args.toList ds p := hA0
  rw [Tryz.params6] at hA hval
  obtain ⟨v0, vs0, d0, ds0, p0, q0, hargs, rfl, rfl, h0, r0⟩ := trodAll_cons hA
  obtain ⟨v1, vs1, d1, ds1, p1, q1, rfl, rfl, rfl, h1, r1⟩ := trodAll_cons r0
  obtain ⟨rfl, rfl, rfl⟩ := trodAll_nil r1
  obtain rfl : args = #[v0, v1] := by cases args; simp_all
  obtain ⟨rfl, rfl⟩ := trodVars_none hV
  have k0 := h0
  have k1 := h1
  have lt0 : ∀ x ∈ p0, x.block < W.heap.size := by obtain ⟨m, hm⟩ := k0; exact DataW.trod_lt m _ _ _ hm
  have lt1 : ∀ x ∈ p1, x.block < W.heap.size := by obtain ⟨m, hm⟩ := k1; exact DataW.trod_lt m _ _ _ hm
  obtain ⟨vs, vt, ve, m, rfl, hl, hwf⟩ := open_mgr (hval 0 28 v0 rfl rfl) h0
  obtain ⟨tx, rfl, rfl, rfl, wtx⟩ := open_int Tryz.underlying3 (hval 1 3 v1 rfl rfl) h1
  clear hA0 hval0
  refine (exactCommit_any vs vt ve m tx W hl hwf (laid_of_met hL)).mono fun e W' ⟨he, bel⟩ => ?_
  subst he
  exact ⟨_, rfl, _, _, _, [], _, [], hW', trodAll_mk1 (shut_bool Tryz.underlying4 _), trodAll_cons_mk (Below.trod laidOut (by kernel_rfl) (of_decide_eq_true (by kernel_rfl)) k0 bel lt0) (trodAll_cons_mk (Below.trod laidOut (by kernel_rfl) (of_decide_eq_true (by kernel_rfl)) k1 bel lt1) trodAll_mk0), rfl, bel.frame _, fun h => by cases h⟩

theorem exactCommit_row : Rows.FnExactCommitSaid :=
  OpenClaim.holds_of_wide 6 Tryz.f6 rfl rfl rfl rfl rfl rfl rfl ⟨rfl, rfl, rfl, rfl, rfl⟩ rfl rfl rfl rfl rfl (by kernel_rfl) Tryz.func6 (by kernel_rfl)
    (of_decide_eq_true (by kernel_rfl)) (by unfold Func.isWrapper; first | (rw [if_pos (by decide +kernel)]; kernel_rfl) | (rw [if_neg (by decide +kernel)]; exact ⟨rfl, rfl⟩))
    (fun os started H enc _ => liftedCommit os started H enc)

theorem exactCommit_holds : Rows.FnExactCommitCardSaid :=
  Claim7.holds_tied_plain_at .later [] [.handle] true (true, "16bbb8f8f4b840752c4bacd6aeed18ef8d9a8d8892ae63030fad336b7b91feaf") true
    exactCommit_row (fun _ h => by cases h) (by kernel_rfl) (fun _ h => by cases h) fnExactCommit_row_tie rfl ⟨rfl, rfl⟩ (by kernel_rfl) rfl
    (fun f fn hf hfn => by
      obtain rfl : f = 6 := Option.some.inj ((show Tryz.prog.funcNamed "loop.example/g00689/laws.FnExactCommit" = some 6 by kernel_rfl).symm.trans hf) |>.symm
      obtain rfl : fn = Tryz.f6 := (Option.some.inj (Tryz.func6.symm.trans hfn)).symm
      exact ⟨by kernel_rfl, fun j t ht => by
        rw [Tryz.params6] at ht
        rcases j with _ | _ | j
        · obtain rfl : t = 28 := by simpa using ht.symm
          exact (show Tryz.prog.wantsStandIn 28 = false by kernel_rfl)
        · obtain rfl : t = 3 := by simpa using ht.symm
          exact (show Tryz.prog.wantsStandIn 3 = false by kernel_rfl)
        · simp at ht⟩)
    (by kernel_rfl)
#print axioms exactCommit_holds
end Go.Proofs.YtmecbppblbmchaaGreatDoor
