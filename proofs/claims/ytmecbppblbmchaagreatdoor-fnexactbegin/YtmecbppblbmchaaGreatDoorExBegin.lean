import Derived.Test.YtmecbppblbmchaaGreatDoorMSize
import Derived.Test.YtmecbppblbmchaaGreatDoorOpen
import Derived.Test.YtmecbppblbmchaaGreatDoorMOpen
import Derived.ChangeOld
import Derived.Test.YtmecbppblbmchaaGreatDoorCards
import Derived.Test.YtmecbppblbmchaaGreatDoorTie
import Derived.ChangeSame
import Derived.ChangeVars
import Derived.JoinedOf
import Derived.RowKitTokens
import Derived.LaidLaws
import Derived.LaidHandle
import Derived.Stop.Joined
import Derived.SevenTiedAt
/- For every state of the whole, where the cell of errors.As is laid, the exact law of Begin returns true. -/
namespace Go.Proofs.YtmecbppblbmchaaGreatDoor
open Go.ChangeShapes Go.WideShapes Go.ChangeAt Go.RowKit Go.Sort
set_option linter.unusedVariables false
set_option maxRecDepth 100000
attribute [local go_sem ↓] Go.wp_at_zero Go.wp_at_succ

theorem MBox.same {w w' : World} {b : Nat} {vs : Value} {c n : Int} {vt ve : Value} (h : MBox w b vs c n vt ve) (e : w'.heap[b]? = w.heap[b]?) : MBox w' b vs c n vt ve := by
  obtain ⟨h0, h1, h2, h3, h4⟩ := h
  exact ⟨cell_same e h0, cell_same e h1, cell_same e h2, cell_same e h3, cell_same e h4⟩
theorem MBox.lt {w : World} {b : Nat} {vs : Value} {c n : Int} {vt ve : Value} (h : MBox w b vs c n vt ve) : b < w.heap.size := by
  obtain ⟨h0, _⟩ := h
  exact cell_lt h0
theorem MAt.keep {lo hi : Nat} {w w' : World} {vs vt ve : Value} {m : Md} (h : MAt lo hi w vs vt ve m) (hs : ∀ b, lo ≤ b → b < hi → b < w.heap.size → w'.heap[b]? = w.heap[b]?) : MAt lo hi w' vs vt ve m := ⟨h.s.keep hs, h.x.keep hs, h.h.keep hs⟩
theorem begM_small {m : Md} (h : SmallM m) : SmallM' (begM m) := by
  refine ⟨h.s, by have := h.x; simp only [begM, List.length_append, List.length_cons, List.length_nil]; omega, fun i hi => ?_, by have := h.h; simp only [begM, List.length_append, List.length_cons, List.length_nil]; omega⟩
  simp only [begM, List.length_append, List.length_cons, List.length_nil] at hi ⊢
  by_cases e : i < m.x.length
  · rw [tAt_snoc_lt _ _ e]
    have := h.w i e
    omega
  · obtain rfl : i = m.x.length := by omega
    rw [tAt_snoc_eq]
    simp
theorem RB.small {m x : Md} {tx code : Int} (h : RB m x tx code) (hn : SmallM m) : SmallM' x := by
  rcases h with ⟨_, _, rfl, _, _⟩ | ⟨_, rfl, _, _⟩ | ⟨_, _, rfl, _, _⟩
  · exact begM_small hn
  · exact ⟨⟨by simp [md0], fun i hi => absurd hi (by simp [md0])⟩, by simp [md0], fun i hi => absurd hi (by simp [md0]), by simp [md0]⟩
  · exact ⟨⟨by simp [md0], fun i hi => absurd hi (by simp [md0])⟩, by simp [md0], fun i hi => absurd hi (by simp [md0]), by simp [md0]⟩

/-- What stands through the law: the boxes, and the specification's answer. -/
structure SB (w : World) (a1 a2 a3 : Value) (m : Md) (bw : Nat) (w1 w2 w3 : Value) (o : Md) (bx : Nat) (x1 x2 x3 : Value) (bg : Nat) (g1 g2 g3 : Value) (lo hi : Nat) (x : World) : Prop where
  b : Below w.heap.size w x
  pa : MBox x w.heap.size a1 m.c m.n a2 a3
  pw : MBox x bw w1 o.c o.n w2 w3
  px : MBox x bx x1 m.c m.n x2 x3
  pg : MBox x bg g1 o.c o.n g2 g3
  ow : MAt lo hi x w1 w2 w3 o
theorem SB.stays {w : World} {a1 a2 a3 : Value} {m : Md} {bw : Nat} {w1 w2 w3 : Value} {o : Md} {bx : Nat} {x1 x2 x3 : Value} {bg : Nat} {g1 g2 g3 : Value} {lo hi : Nat} {x y : World} (h : SB w a1 a2 a3 m bw w1 w2 w3 o bx x1 x2 x3 bg g1 g2 g3 lo hi x) (hb : Below x.heap.size x y) : SB w a1 a2 a3 m bw w1 w2 w3 o bx x1 x2 x3 bg g1 g2 g3 lo hi y :=
  ⟨h.b.trans (hb.mono h.b.size), h.pa.stays hb, h.pw.stays hb, h.px.stays hb, h.pg.stays hb, h.ow.stays hb⟩
theorem SB.mark {w : World} {a1 a2 a3 : Value} {m : Md} {bw : Nat} {w1 w2 w3 : Value} {o : Md} {bx : Nat} {x1 x2 x3 : Value} {bg : Nat} {g1 g2 g3 : Value} {lo hi : Nat} {x y : World} (h : SB w a1 a2 a3 m bw w1 w2 w3 o bx x1 x2 x3 bg g1 g2 g3 lo hi x) {p q : Nat}
    (hk : ∀ k, ¬ (p ≤ k ∧ k < q) → k < x.heap.size → y.heap[k]? = x.heap[k]?) (h1 : y.os = x.os) (h2 : y.tape = x.tape) (h3 : y.output = x.output) (h4 : x.heap.size ≤ y.heap.size)
    (n1 : w.heap.size < p) (n2 : ¬ (p ≤ bw ∧ bw < q)) (n3 : ¬ (p ≤ bx ∧ bx < q)) (n4 : ¬ (p ≤ bg ∧ bg < q)) (n5 : hi ≤ p) : SB w a1 a2 a3 m bw w1 w2 w3 o bx x1 x2 x3 bg g1 g2 g3 lo hi y := by
  have hz := h.b.size
  exact ⟨h.b.trans ⟨h1, h2, h3, h4, fun k hk' => hk k (by omega) (by omega)⟩, h.pa.same (hk _ (by omega) h.pa.lt), h.pw.same (hk _ n2 h.pw.lt), h.px.same (hk _ n3 h.px.lt), h.pg.same (hk _ n4 h.pg.lt), h.ow.keep fun b hb1 hb2 hb3 => hk b (by omega) hb3⟩
theorem OwnM.slices {base s0 s1 : Nat} {w : World} {vs vt ve : Value} {m : Md} {wv : Nat → Value} (h : OwnM base w s0 s1 vs vt ve m wv) : (∃ a c, vs = .slice a m.s.length c) ∧ (∃ a c, vt = .slice a m.x.length c) ∧ ∃ a c, ve = .slice a m.h.length c := ⟨h.s.slice, owns_sliceM h.x, owns_sliceM h.h⟩

set_option maxHeartbeats 8000000 in
theorem exactBegin_any (vs vt ve : Value) (m : Md) (w : World) {lo hi : Nat} (h : MAt lo hi w vs vt ve m) (hL : Laid w) :
    Calls Tryz.prog 3 #[.agg #[vs, .int .i64 m.c, .int .i64 m.n, vt, ve]] w fun e w' => e = .returned (.bool true) ∧ Below w.heap.size w w' := by
  obtain ⟨a1, cap1, hv1⟩ : ∃ a cap, vs = .slice a m.s.length cap := by obtain ⟨a, cap, h1, _⟩ := h.s; exact ⟨a, cap, h1⟩
  obtain ⟨a2, cap2, hv2⟩ : ∃ a cap, vt = .slice a m.x.length cap := by obtain ⟨a, cap, h1, _⟩ := h.x; exact ⟨a, cap, h1⟩
  obtain ⟨a3, cap3, hv3⟩ : ∃ a cap, ve = .slice a m.h.length cap := by obtain ⟨a, cap, h1, _⟩ := h.h; exact ⟨a, cap, h1⟩
  subst hv1 hv2 hv3
  have b0 : Below w.heap.size w (w.alloc (Obj.cells #[Value.slice a1 m.s.length cap1, .int .i64 m.c, .int .i64 m.n, Value.slice a2 m.x.length cap2, Value.slice a3 m.h.length cap3] 28)) := (Below.refl _ _).alloc (Nat.le_refl _) _
  have p0 := MBox.new w (Value.slice a1 m.s.length cap1) m.c m.n (Value.slice a2 m.x.length cap2) (Value.slice a3 m.h.length cap3) 28
  go_enter Tryz.func3, Tryz.ntmps3
  go_wp2_with fail
  refine (szMgr_any _ _ _ m _ (h.stays b0) _ (by omega) (by omega)).mono ?_
  rintro e w1 ⟨q, rfl, hq1, hq2, hb1⟩
  have b1 := b0.trans (hb1.mono b0.size)
  have p1 := p0.stays hb1
  clear b0 p0 hb1
  by_cases hneg : q < 0
  · go_wp2
    go_ret
    exact ⟨rfl, b1⟩
  have hs := hq2 (by omega)
  clear hq2
  obtain ⟨r0, r1, r2, r3, r4⟩ := id p1
  go_wp2_with fail
  refine (toMgr_own _ _ _ m _ (h.stays b1) hs).mono ?_
  rintro e w2 ⟨bs2, Bs2, bt2, Bt2, be2, rfl, hv2, hb2⟩
  have b2 := b1.trans (hb2.mono b1.size)
  have p2 := p1.stays hb2
  have hm2 := hv2.at hs m.s.length m.x.length m.h.length
  clear b1 p1 hb2 hv2 r0 r1 r2 r3 r4
  go_wp2_with fail
  refine (specBegin_any _ _ _ m _ hm2 hs).mono ?_
  rintro e w3 ⟨v3, o, tx, code, rfl, ⟨s30, s31, vs3, vt3, ve3, wv3, rfl, O3⟩, hR, hb3⟩
  have HR : Hid (RB m o tx code) := hR
  have hsm := hR.small hs
  have b3 := b2.trans (hb3.mono b2.size)
  have p3 := p2.stays hb3
  have hw2 := p2.lt
  have hz3 := hb3.size
  have ow3 := O3.mat hsm
  obtain ⟨⟨a31, c31, rfl⟩, ⟨a32, c32, rfl⟩, ⟨a33, c33, rfl⟩⟩ := O3.slices
  clear b2 p2 hb3 hm2 hR O3
  have hbA := below_alM w3 (Obj.cells #[Value.slice a31 o.s.length c31, .int .i64 o.c, .int .i64 o.n, Value.slice a32 o.x.length c32, Value.slice a33 o.h.length c33] 36)
  have pw3 := MBox.new w3 (Value.slice a31 o.s.length c31) o.c o.n (Value.slice a32 o.x.length c32) (Value.slice a33 o.h.length c33) 36
  have b3' := b3.trans (hbA.mono b3.size)
  have p3' := p3.stays hbA
  have ow3' := ow3.stays hbA
  have hzA : (w3.alloc (Obj.cells #[Value.slice a31 o.s.length c31, .int .i64 o.c, .int .i64 o.n, Value.slice a32 o.x.length c32, Value.slice a33 o.h.length c33] 36)).heap.size = w3.heap.size + 1 := by simp
  obtain ⟨r0, r1, r2, r3, r4⟩ := id p3'
  clear b3 p3 ow3 hbA
  go_wp2_with fail
  generalize w3.alloc (Obj.cells #[Value.slice a31 o.s.length c31, .int .i64 o.c, .int .i64 o.n, Value.slice a32 o.x.length c32, Value.slice a33 o.h.length c33] 36) = W3 at *
  refine (toMgr_own _ _ _ m _ (h.stays b3') hs).mono ?_
  rintro e w4 ⟨bs4, Bs4, bt4, Bt4, be4, rfl, hv4, hb4⟩
  have b4 := b3'.trans (hb4.mono b3'.size)
  have pa4 := p3'.stays hb4
  have pw4 := pw3.stays hb4
  have ow4 := ow3'.stays hb4
  have hz4 := hb4.size
  have hm4 := hv4.at hs m.s.length m.x.length m.h.length
  obtain ⟨px, wvx, X4⟩ := WrM.of_copy hv4 (Nat.le_refl _) m.s.length m.x.length m.h.length
  have hbB := below_alM w4 (Obj.cells #[Value.slice (some ⟨bs4, 0, none⟩) m.s.length m.s.length, .int .i64 m.c, .int .i64 m.n, Value.slice (some ⟨bt4, 0, none⟩) m.x.length m.x.length, Value.slice (some ⟨be4, 0, none⟩) m.h.length m.h.length] 36)
  have px4 := MBox.new w4 (Value.slice (some ⟨bs4, 0, none⟩) m.s.length m.s.length) m.c m.n (Value.slice (some ⟨bt4, 0, none⟩) m.x.length m.x.length) (Value.slice (some ⟨be4, 0, none⟩) m.h.length m.h.length) 36
  have hzB : (w4.alloc (Obj.cells #[Value.slice (some ⟨bs4, 0, none⟩) m.s.length m.s.length, .int .i64 m.c, .int .i64 m.n, Value.slice (some ⟨bt4, 0, none⟩) m.x.length m.x.length, Value.slice (some ⟨be4, 0, none⟩) m.h.length m.h.length] 36)).heap.size = w4.heap.size + 1 := by simp
  clear b3' p3' pw3 ow3' hb4 hv4 r0 r1 r2 r3 r4
  go_wp2_with fail
  generalize w4.alloc (Obj.cells #[Value.slice (some ⟨bs4, 0, none⟩) m.s.length m.s.length, .int .i64 m.c, .int .i64 m.n, Value.slice (some ⟨bt4, 0, none⟩) m.x.length m.x.length, Value.slice (some ⟨be4, 0, none⟩) m.h.length m.h.length] 36) = W4 at *
  refine (implBegin_any _ _ _ m _ (hm4.stays hbB) hs (hL.stays (b4.trans (hbB.mono b4.size)))).mono ?_
  rintro e w6 ⟨v6, o6, tx6, code6, rfl, ⟨s60, s61, vs6, vt6, ve6, wv6, rfl, O6⟩, hR6, hb6⟩
  obtain ⟨e1, e2, e3⟩ := HR.out.one hR6
  subst e1 e2 e3
  obtain ⟨⟨a61, c61, rfl⟩, ⟨a62, c62, rfl⟩, ⟨a63, c63, rfl⟩⟩ := O6.slices
  have hz6 := hb6.size
  have hbC := below_alM w6 (Obj.cells #[Value.slice a61 o.s.length c61, .int .i64 o.c, .int .i64 o.n, Value.slice a62 o.x.length c62, Value.slice a63 o.h.length c63] 36)
  have b46 := (hbB.trans (hb6.mono hbB.size)).trans (hbC.mono (by omega))
  have S6 : SB w (.slice a1 m.s.length cap1) (.slice a2 m.x.length cap2) (.slice a3 m.h.length cap3) m w3.heap.size (.slice a31 o.s.length c31) (.slice a32 o.x.length c32) (.slice a33 o.h.length c33) o w4.heap.size (.slice (some ⟨bs4, 0, none⟩) m.s.length m.s.length) (.slice (some ⟨bt4, 0, none⟩) m.x.length m.x.length) (.slice (some ⟨be4, 0, none⟩) m.h.length m.h.length) w6.heap.size (.slice a61 o.s.length c61) (.slice a62 o.x.length c62) (.slice a63 o.h.length c63) w2.heap.size w3.heap.size (w6.alloc (Obj.cells #[Value.slice a61 o.s.length c61, .int .i64 o.c, .int .i64 o.n, Value.slice a62 o.x.length c62, Value.slice a63 o.h.length c63] 36)) :=
    ⟨b4.trans (b46.mono b4.size), pa4.stays b46, pw4.stays b46, px4.stays (hb6.trans (hbC.mono hb6.size)), MBox.new w6 _ _ _ _ _ _, ow4.stays b46⟩
  have X6 := X4.stays b46
  have hMx6 := hm4.stays b46
  have G6 := O6.stays hbC
  have Y6 := (WrM.of_own O6).stays hbC
  have hz6' := hbC.size
  clear b4 pa4 pw4 ow4 hm4 X4 hbB px4 O6 hR6 hb6 hbC b46
  obtain ⟨_, pa, pw, px', pg, _⟩ := id S6
  obtain ⟨f0, f1, f2, f3, f4⟩ := pw
  clear pa px' pg
  go_wp2_with fail
  generalize w6.alloc (Obj.cells #[Value.slice a61 o.s.length c61, .int .i64 o.c, .int .i64 o.n, Value.slice a62 o.x.length c62, Value.slice a63 o.h.length c63] 36) = W6 at *
  refine (eqMgr_same _ _ _ _ _ _ o _ (G6.mat hsm) S6.ow).mono ?_
  rintro e w7 ⟨rfl, hb7⟩
  have S7 := S6.stays hb7
  have X7 := X6.stays hb7
  have hMx7 := hMx6.stays hb7
  have G7 := G6.stays hb7
  have Y7 := Y6.stays hb7
  have hz7 := hb7.size
  clear S6 X6 G6 Y6 hMx6 hb7 f0 f1 f2 f3 f4
  have TA : ∀ x, Below w7.heap.size w7 x → Below w.heap.size w x ∧ x.cell? ⟨w.heap.size, 0, none⟩ = some (.slice a1 m.s.length cap1) ∧ x.cell? ⟨w.heap.size, 1, none⟩ = some (.int .i64 m.c) ∧ x.cell? ⟨w.heap.size, 2, none⟩ = some (.int .i64 m.n) ∧ x.cell? ⟨w.heap.size, 3, none⟩ = some (.slice a2 m.x.length cap2) ∧ x.cell? ⟨w.heap.size, 4, none⟩ = some (.slice a3 m.h.length cap3) ∧ x.cell? ⟨w4.heap.size, 0, none⟩ = some (.slice (some ⟨bs4, 0, none⟩) m.s.length m.s.length) ∧ x.cell? ⟨w4.heap.size, 1, none⟩ = some (.int .i64 m.c) ∧ x.cell? ⟨w4.heap.size, 2, none⟩ = some (.int .i64 m.n) ∧ x.cell? ⟨w4.heap.size, 3, none⟩ = some (.slice (some ⟨bt4, 0, none⟩) m.x.length m.x.length) ∧ x.cell? ⟨w4.heap.size, 4, none⟩ = some (.slice (some ⟨be4, 0, none⟩) m.h.length m.h.length) := fun x hx => by
    obtain ⟨t0, ⟨t1, t2, t3, t4, t5⟩, _, ⟨t6, t7, t8, t9, ta⟩, _, _⟩ := S7.stays hx
    exact ⟨t0, t1, t2, t3, t4, t5, t6, t7, t8, t9, ta⟩
  go_wp2_with fail
  refine region_last (fun x => Below w.heap.size w x ∧ x.cell? ⟨w.heap.size, 0, none⟩ = some (.slice a1 m.s.length cap1) ∧ x.cell? ⟨w.heap.size, 1, none⟩ = some (.int .i64 m.c) ∧ x.cell? ⟨w.heap.size, 2, none⟩ = some (.int .i64 m.n) ∧ x.cell? ⟨w.heap.size, 3, none⟩ = some (.slice a2 m.x.length cap2) ∧ x.cell? ⟨w.heap.size, 4, none⟩ = some (.slice a3 m.h.length cap3) ∧ x.cell? ⟨w4.heap.size, 0, none⟩ = some (.slice (some ⟨bs4, 0, none⟩) m.s.length m.s.length) ∧ x.cell? ⟨w4.heap.size, 1, none⟩ = some (.int .i64 m.c) ∧ x.cell? ⟨w4.heap.size, 2, none⟩ = some (.int .i64 m.n) ∧ x.cell? ⟨w4.heap.size, 3, none⟩ = some (.slice (some ⟨bt4, 0, none⟩) m.x.length m.x.length) ∧ x.cell? ⟨w4.heap.size, 4, none⟩ = some (.slice (some ⟨be4, 0, none⟩) m.h.length m.h.length)) (by kernel_rfl) (by kernel_rfl) (by kernel_rfl) (TA _ (Below.refl _ _).drew) (fun hHeld => ?_)
  simp only [List.dropLast, List.length_cons, List.length_nil, Nat.reduceAdd]
  refine takeL (i := 0) (v := ?_) rfl (by kernel_rfl) (by kernel_rfl) (by kernel_rfl) (fun _ _ _ h => h) rfl (by assumption) ?_ ?_
  rotate_left
  · (intro wS hSw; (try dsimp only at hSw); go_simp; try with_reducible rfl)
  (try simp only [Act.put, List.setIfInBounds_toArray, List.set_cons_zero, List.set_cons_succ])
  refine takeL (i := 1) (v := ?_) rfl (by kernel_rfl) (by kernel_rfl) (by kernel_rfl) (fun _ _ _ h => h) rfl (by assumption) ?_ ?_
  rotate_left
  · (intro wS hSw; (try dsimp only at hSw); go_simp; try with_reducible rfl)
  (try simp only [Act.put, List.setIfInBounds_toArray, List.set_cons_zero, List.set_cons_succ])
  refine stepL (i := 2) rfl (by kernel_rfl) (fun K hK => ?_)
  rw [if_pos (by rfl)]
  go_simp
  refine (toMgr_own _ _ _ m _ (h.stays (TA _ (Below.refl _ _).drew).1) hs).mono ?_
  rintro e w8 ⟨bs8, Bs8, bt8, Bt8, be8, rfl, hv8, hb8⟩
  have hm8 := hv8.at hs m.s.length m.x.length m.h.length
  have t78 : Below w7.heap.size w7 w8 := (Below.refl _ _).drew.trans hb8
  refine hK.out _ _ (TA _ t78) (fun hHeld2 => ?_)
  clear hK K hHeld
  (try simp only [Act.put, List.setIfInBounds_toArray, List.set_cons_zero, List.set_cons_succ])
  refine stepL (i := 3) rfl (by kernel_rfl) (fun K hK => ?_)
  rw [if_pos (by rfl)]
  go_simp
  have hX8 := X7.stays t78
  refine (eqMgr_same _ _ _ _ _ _ m _ ((hMx7.stays t78)) hm8).mono ?_
  rintro e w9 ⟨rfl, hb9⟩
  have t79 := t78.trans (hb9.mono t78.size)
  refine hK.out _ _ (TA _ t79) (fun hHeld3 => ?_)
  clear hK K hHeld2
  (try simp only [Act.put, List.setIfInBounds_toArray, List.set_cons_zero, List.set_cons_succ])
  refine wpAnyH_done (by kernel_rfl) ?_ _
  refine lastL (n := 4) rfl rfl ?_
  go_simp
  have S9 := S7.stays t79
  have X9 := X7.stays t79
  have G9 := G7.stays t79
  have Y9 := Y7.stays t79
  have hz9 := t79.size
  clear hHeld3 TA S7 X7 G7 Y7 t78 t79 hv8 hb8 hb9 hm8 hX8 hMx7
  obtain ⟨_, pa, pw, px', pg, _⟩ := id S9
  obtain ⟨f0, f1, f2, f3, f4⟩ := px'
  clear pa pw pg
  go_wp2_with fail
  refine (markMgr_any _ W3.heap.size w4.heap.size W3.heap.size px _ _ _ m wvx X9 hs.room).mono ?_
  rintro e w10 ⟨rfl, k10, o10, t10, u10, z10, _⟩
  have S10 := S9.mark k10 o10 t10 u10 z10 (by omega) (by omega) (by omega) (by omega) (by omega)
  have G10 := G9.keep (fun k h1 h2 => k10 k (by omega) h2) z10
  have Y10 := Y9.keep (fun k h1 h2 h3 => k10 k (by omega) h3) z10
  have hnm : ¬ ((mK m : Nat) : Int) < 0 := by omega
  generalize ((mK m : Nat) : Int) = KM1 at hnm ⊢
  clear S9 X9 G9 Y9 k10 o10 t10 u10 f0 f1 f2 f3 f4
  obtain ⟨_, pa, pw, px', pg, _⟩ := id S10
  obtain ⟨f0, f1, f2, f3, f4⟩ := pw
  obtain ⟨g0, g1, g2, g3, g4⟩ := pg
  clear pa px'
  go_wp2_with fail
  refine (eqMgr_same _ _ _ _ _ _ o _ (G10.mat hsm) S10.ow).mono ?_
  rintro e w11 ⟨rfl, hb11⟩
  have S11 := S10.stays hb11
  have Y11 := Y10.stays hb11
  have hz11 := hb11.size
  clear S10 G10 Y10 hb11 f0 f1 f2 f3 f4 g0 g1 g2 g3 g4
  obtain ⟨_, pa, pw, px', pg, _⟩ := id S11
  obtain ⟨g0, g1, g2, g3, g4⟩ := pg
  clear pa px' pw
  go_wp2_with fail
  refine (markMgr_any _ _ _ _ _ _ _ _ o wv6 Y11 hsm).mono ?_
  rintro e w12 ⟨rfl, k12, o12, t12, u12, z12, K12⟩
  have S12 := S11.mark k12 o12 t12 u12 z12 (by omega) (by omega) (by omega) (by omega) (by omega)
  clear S11 Y11 k12 o12 t12 u12 g0 g1 g2 g3 g4
  obtain ⟨_, pa, pw, px', pg, _⟩ := id S12
  obtain ⟨g0, g1, g2, g3, g4⟩ := pg
  clear pa px' pw
  go_wp2_with fail
  refine (heldMgr_any _ _ _ _ _ _ _ _ o wv6 K12 hsm ⟨_, _, rfl⟩ ⟨_, _, rfl⟩ ⟨_, _, rfl⟩).mono ?_
  rintro e w13 ⟨rfl, hb13⟩
  have S13 := S12.stays hb13
  have K13 := K12.stays hb13
  have hz13 := hb13.size
  clear S12 K12 hb13 g0 g1 g2 g3 g4
  have hno : ¬ ((mK o : Nat) : Int) < 0 := by omega
  have b13 := S13.b
  obtain ⟨_, pa, pw, px', pg, _⟩ := id S13
  obtain ⟨f0, f1, f2, f3, f4⟩ := pa
  clear pg px' pw
  go_wp2_with fail
  refine (toMgr_own _ _ _ m _ (h.stays b13) hs).mono ?_
  rintro e w14 ⟨bs14, Bs14, bt14, Bt14, be14, rfl, hv14, hb14⟩
  have hm14 := hv14.at hs m.s.length m.x.length m.h.length
  have S14 := S13.stays hb14
  have K14 := K13.stays hb14
  have hz14 := hb14.size
  clear S13 K13 hb14 hv14 f0 f1 f2 f3 f4 b13
  go_wp2_with fail
  refine (implBegin_any _ _ _ m _ hm14 hs (hL.stays S14.b)).mono ?_
  rintro e w15 ⟨v15, o15, tx15, code15, rfl, ⟨s150, s151, vs15, vt15, ve15, wv15, rfl, O15⟩, hR15, hb15⟩
  obtain ⟨e1, e2, e3⟩ := HR.out.one hR15
  subst e1 e2 e3
  obtain ⟨⟨a151, c151, rfl⟩, ⟨a152, c152, rfl⟩, ⟨a153, c153, rfl⟩⟩ := O15.slices
  have hz15 := hb15.size
  have hbD := below_alM w15 (Obj.cells #[Value.slice a151 o.s.length c151, .int .i64 o.c, .int .i64 o.n, Value.slice a152 o.x.length c152, Value.slice a153 o.h.length c153] 36)
  have hb16 := hb15.trans (hbD.mono hb15.size)
  have S16 := S14.stays hb16
  have K16 := K14.stays hb16
  have O16 := O15.stays hbD
  clear S14 K14 hm14 O15 hR15 hb15 hbD hb16
  obtain ⟨_, pa, pw, px', pg, _⟩ := id S16
  obtain ⟨f0, f1, f2, f3, f4⟩ := pw
  clear pg px' pa
  go_wp2_with fail
  generalize w15.alloc (Obj.cells #[Value.slice a151 o.s.length c151, .int .i64 o.c, .int .i64 o.n, Value.slice a152 o.x.length c152, Value.slice a153 o.h.length c153] 36) = W16 at *
  refine (eqMgr_same _ _ _ _ _ _ o _ (O16.mat hsm) S16.ow).mono ?_
  rintro e w17 ⟨rfl, hb17⟩
  have S17 := S16.stays hb17
  have K17 := K16.stays hb17
  clear S16 K16 O16 hb17 f0 f1 f2 f3 f4
  obtain ⟨_, pa, pw, px', pg, _⟩ := id S17
  obtain ⟨g0, g1, g2, g3, g4⟩ := pg
  clear pa px' pw
  go_wp2_with fail
  refine (heldMgr_any _ _ _ _ _ _ _ _ o wv6 K17 hsm ⟨_, _, rfl⟩ ⟨_, _, rfl⟩ ⟨_, _, rfl⟩).mono ?_
  rintro e w18 ⟨rfl, hb18⟩
  have b18 := (S17.stays hb18).b
  clear S17 K17 hb18 g0 g1 g2 g3 g4
  go_wp2
  go_ret
  exact ⟨rfl, b18⟩

/-! ### The row -/

theorem own : ownKnob Tryz.prog.godebug = none := by kernel_rfl
theorem laidOut : laidOutB Tryz.prog = true := by kernel_rfl
theorem lay_et : Tryz.prog.globalNamed "errors.errorType" = some 0 := by kernel_rfl
theorem lay_rt : (Tryz.prog.cutTypes.find? (·.1 == "internal/reflectlite.rtype")).map (·.2) = some 190 := by kernel_rfl
theorem lay_row : ((List.range Tryz.prog.types.size).filter fun t => Tryz.prog.rowNamed t [101, 114, 114, 111, 114]) = [67] := by kernel_rfl
abbrev laidL : List (String × DataW Unit) := [("errors.errorType", Rows.laid_errors_errorType)]

theorem laid_of_met {W : World} (h : laidMetH Tryz.prog laidL W) : Laid W := by
  have h' : laidMet Tryz.prog [] W ∧ handlesMet Tryz.prog laidL W := h
  obtain ⟨name, u, ty, e1, e2, e3, e4, e5⟩ := h'.2 _ (List.mem_singleton.2 rfl)
  have en : name = [101, 114, 114, 111, 114] := (Option.some.inj e1).symm
  subst en
  obtain rfl := Option.some.inj (lay_rt.symm.trans e2)
  have hm : ty ∈ (List.range Tryz.prog.types.size).filter fun t => Tryz.prog.rowNamed t [101, 114, 114, 111, 114] := List.mem_filter.2 ⟨List.mem_range.2 e3, e4⟩
  rw [lay_row] at hm
  obtain rfl := List.mem_singleton.1 hm
  have hh : typeHandle Tryz.prog 67 = .pointer (some ⟨1, 67, none⟩) := by kernel_rfl
  rw [hh] at e5
  have e6 : W.cell? ⟨0, 0, none⟩ = some (.iface 190 (.agg #[.pointer (some ⟨1, 67, none⟩)])) := by simpa using World.var?_cell lay_et e5 0
  exact e6

/-- A world that meets the condition: the settled one, the variable's cell laid. -/
noncomputable def laidWorld (os : Os) : World :=
  let w0 := World.holding Tryz.prog os ⟨#[], #[], []⟩
  { w0 with heap := w0.heap.modify 0 fun
      | .cells _ t frozen => .cells #[.iface 190 (.agg #[.pointer (some ⟨1, 67, none⟩)])] t frozen
      | o => o }
theorem laidWorld_met (os : Os) (args : Array Value) : laidMetH Tryz.prog laidL ((laidWorld os).forCall (fun _ _ => 0) ⟨#[], args, []⟩).memory :=
  laidMetH_of_parts (laidMet_nil _ _) (by kernel_rfl)

set_option maxRecDepth 100000 in
theorem liftedBegin (os : Os) (started : os.Started) (H : Type) (enc : TypeId × Value → H) :
    ReturnsInHanded {} Tryz.checked os 3 .any (fun w args => (Rows.fnExactBeginSpec.pre enc Tryz.prog Tryz.f3 Rows.fnExactBeginRow.domain false w args ∧ laidMetH Tryz.prog laidL w) ∧ sizedMet enc Tryz.prog Tryz.f3 (OpenSpec.ofChange Rows.fnExactBeginSpec) false w args)
      (Rows.fnExactBeginSpec.post enc Tryz.prog Tryz.f3 false true false false) := by
  refine returnsInHanded_of_change_and (C := Tryz.checked) (X := fun w _ => laidMetH Tryz.prog laidL w) (fun _ _ _ hh h => h.of_heap hh) own started (by kernel_rfl) Tryz.func3
    (ChangeSpec.witness_at (enc := enc) (C := Tryz.checked) (os := os) (X := fun w _ => laidMetH Tryz.prog laidL w) false (laidWorld os) #[.agg #[.slice none 0 0, .int .i64 0, .int .i64 0, .slice none 0 0, .slice none 0 0]] 8 rfl (by kernel_rfl) (by kernel_rfl) (by kernel_rfl) (by kernel_rfl) (by kernel_rfl) (laidWorld_met os _)) ?_
  intro W base args ds gs before hval0 hW _ _ hL _
  have hval : ∀ (j : Nat) t v, Tryz.f3.params[j]? = some t → args[j]? = some v → Value.okWide Tryz.prog W .any base t v := hval0
  have hW' := hW
  obtain ⟨p, q, hA0, hV, rfl, hfz, hnd⟩ := hW
  have hA : DataW.TrodAll enc Tryz.prog W 0 (fun _ => true) true Tryz.f3.params.toList args.toList ds p := hA0
  rw [Tryz.params3] at hA hval
  obtain ⟨v0, vs0, d0, ds0, p0, q0, hargs, rfl, rfl, h0, r0⟩ := trodAll_cons hA
  obtain ⟨rfl, rfl, rfl⟩ := trodAll_nil r0
  obtain rfl : args = #[v0] := by cases args; simp_all
  obtain ⟨rfl, rfl⟩ := trodVars_none hV
  have k0 := h0
  have lt0 : ∀ x ∈ p0, x.block < W.heap.size := by obtain ⟨m, hm⟩ := k0; exact DataW.trod_lt m _ _ _ hm
  obtain ⟨vs, vt, ve, m, rfl, hl, hwf⟩ := open_mgr (hval 0 28 v0 rfl rfl) h0
  clear hA0 hval0
  refine (exactBegin_any vs vt ve m W hl (laid_of_met hL)).mono fun e W' ⟨he, bel⟩ => ?_
  subst he
  exact ⟨_, rfl, _, _, _, [], _, [], hW', trodAll_mk1 (shut_bool Tryz.underlying4 _), trodAll_cons_mk (Below.trod laidOut (by kernel_rfl) (of_decide_eq_true (by kernel_rfl)) k0 bel lt0) trodAll_mk0, rfl, bel.frame _, fun h => by cases h⟩

theorem exactBegin_row : Rows.FnExactBeginSaid :=
  OpenClaim.holds_of_wide 3 Tryz.f3 rfl rfl rfl rfl rfl rfl rfl ⟨rfl, rfl, rfl, rfl, rfl⟩ rfl rfl rfl rfl rfl (by kernel_rfl) Tryz.func3 (by kernel_rfl)
    (of_decide_eq_true (by kernel_rfl)) (by unfold Func.isWrapper; first | (rw [if_pos (by decide +kernel)]; kernel_rfl) | (rw [if_neg (by decide +kernel)]; exact ⟨rfl, rfl⟩))
    (fun os started H enc _ => liftedBegin os started H enc)

theorem exactBegin_holds : Rows.FnExactBeginCardSaid :=
  Claim7.holds_tied_plain_at .later [] [.handle] true (true, "16bbb8f8f4b840752c4bacd6aeed18ef8d9a8d8892ae63030fad336b7b91feaf") true
    exactBegin_row (fun _ h => by cases h) (by kernel_rfl) (fun _ h => by cases h) fnExactBegin_row_tie rfl ⟨rfl, rfl⟩ (by kernel_rfl) rfl
    (fun f fn hf hfn => by
      obtain rfl : f = 3 := Option.some.inj ((show Tryz.prog.funcNamed "loop.example/g00689/laws.FnExactBegin" = some 3 by kernel_rfl).symm.trans hf) |>.symm
      obtain rfl : fn = Tryz.f3 := (Option.some.inj (Tryz.func3.symm.trans hfn)).symm
      exact ⟨by kernel_rfl, fun j t ht => by
        rw [Tryz.params3] at ht
        have h3 : t = 28 := by
          rcases j with _ | j
          · simpa using ht.symm
          · simp at ht
        subst h3
        exact (show Tryz.prog.wantsStandIn 28 = false by kernel_rfl)⟩)
    (by kernel_rfl)
#print axioms exactBegin_holds
end Go.Proofs.YtmecbppblbmchaaGreatDoor
