/- Rows and statements that have no blocks, and expressions. -/
import Derived.Test.YtkdlgglikhbnkacPExpr2
namespace Go.Proofs.Ytkdlgglikhbnkac
open Go.ChangeShapes Go.WideShapes Go.ChangeAt Go.RowKit
set_option linter.unusedVariables false
set_option maxRecDepth 100000
attribute [local go_sem ↓] Go.wp_at_zero Go.wp_at_succ

theorem skipF_ok {T : List Tk} {x : ByteArray} {i i' : Nat} {ns ns' : List Nd} {u : Unit} (h : skipF T x i ns = .ok u i' ns') : i + 1 ≤ i' ∧ i' ≤ i + 1 := by
  unfold skipF at h
  split at h <;> cases h
  exact ⟨Nat.le_refl _, Nat.le_refl _⟩
theorem takeF_ok {T : List Tk} {k : Int} {i i' : Nat} {ns ns' : List Nd} {t : Tk} (h : takeF T k i ns = .ok t i' ns') : i + 1 ≤ i' ∧ i' ≤ i + 1 := by
  unfold takeF at h
  split at h <;> cases h
  exact ⟨Nat.le_refl _, Nat.le_refl _⟩

def RowRet (base rb : Nat) (T : List Tk) (wv : Value) (en : Nat) (w : World) (nv : Value) (q : List Qn) (d i0 : Nat) (r : PR (Int × Nat)) (e : Ending) (w' : World) : Prop := match r with
  | .ok x i ns => e = .returned (.tuple #[.int .i64 x.1, .int .i64 (x.2 : Int)]) ∧ Went base rb T wv en w nv q d i0 i ns w'
  | .bad i => e = gives T en i ∧ i ≤ T.length ∧ Below base w w'
def RowC (base rb : Nat) (T : List Tk) (wv : Value) (en n : Nat) : Prop := ∀ (w : World) (i d : Nat) (nv : Value) (q : List Qn), Rd base rb T wv en w i d nv q → T.length - i ≤ n →
  Calls Try.prog 78 #[.pointer (some ⟨rb, 0, none⟩)] w (RowRet base rb T wv en w nv q d i (rowG T (fns T n) d i (qnds q)))

set_option maxHeartbeats 4000000 in
theorem row_step {base rb : Nat} {T : List Tk} {wv : Value} {en n : Nat} (hE : ExprC base rb T wv en n) : RowC base rb T wv en n := by
  intro w i d nv q h hn
  have hq0 := h.hq
  have hi0 := h.hi
  have hT6 : T.length ≤ 6000 := by obtain ⟨_, _, _, h, _⟩ := h.words; exact h
  obtain ⟨TOP, hTOP⟩ : ∃ r, rowG T (fns T n) d i (qnds q) = r := ⟨_, rfl⟩
  rw [hTOP]
  have hres : Hid (TOP = rowG T (fns T n) d i (qnds q)) := hTOP.symm
  clear hTOP
  replace hres := hres.out; unfold rowG at hres; change Hid _ at hres
  go_enter Try.func78, Try.ntmps78
  go_wp2_with fail
  refine (take_any h 4 (by omega)).mono ?_
  rcases hs1 : takeF T 4 i (qnds q) with ⟨t, i1, ns1⟩ | ib
  rotate_left
  · rintro e wb ⟨rfl, hle, hB⟩
    replace hres := hres.out; rw [hs1, PR.then_bad] at hres; change Hid _ at hres
    go_wp2
    rw [hres.out]
    exact ⟨rfl, rfl, hle, hB⟩
  rintro e w1 ⟨rfl, hR1, rfl, m1⟩
  replace hres := hres.out; rw [hs1, PR.then_ok] at hres; change Hid _ at hres
  obtain ⟨fa1, fb1⟩ := takeF_ok hs1
  have hM1 := m1
  clear hs1
  have hfs_t : ∀ wy : World, (Instr.field 59 (.agg #[.int .i64 t.k, .string t.s, .int .i64 t.n, .int .i64 t.p]) 1).run Try.prog wy = .ok (.string t.s) wy := fun wy => by kernel_rfl
  have hfn_t : ∀ wy : World, (Instr.field 59 (.agg #[.int .i64 t.k, .string t.s, .int .i64 t.n, .int .i64 t.p]) 2).run Try.prog wy = .ok (.int .i64 t.n) wy := fun wy => by kernel_rfl
  go_wp2_with fail
  refine (skip_any hR1 (ByteArray.mk #[91]) (by decide)).mono ?_
  rcases hs2 : skipF T (ByteArray.mk #[91]) i1 (qnds q) with ⟨u2, i2, ns2⟩ | ib
  rotate_left
  · rintro e wb ⟨rfl, hle, hB⟩
    replace hres := hres.out; rw [hs2, PR.then_bad] at hres; change Hid _ at hres
    go_wp2
    rw [hres.out]
    exact ⟨rfl, rfl, hle, (hM1.below h).trans hB⟩
  rintro e w2 ⟨rfl, hR2, rfl, m2⟩
  replace hres := hres.out; rw [hs2, PR.then_ok] at hres; change Hid _ at hres
  obtain ⟨fa2, fb2⟩ := skipF_ok hs2
  have hM2 := hM1.trans m2
  clear hs2
  go_wp2_with fail
  refine (hE w2 i2 d nv q hR2 (by omega)).mono ?_
  rcases hs3 : exprG T (fns T n) d i2 (qnds q) with ⟨k, i3, ns3⟩ | ib
  rotate_left
  · rintro e wb ⟨rfl, hle, hB⟩
    replace hres := hres.out; rw [hs3, PR.then_bad] at hres; change Hid _ at hres
    go_wp2
    rw [hres.out]
    exact ⟨rfl, rfl, hle, (hM2.below h).trans hB⟩
  rintro e w3 ⟨rfl, nv3, q3, hR3, rfl, m3, fa3, fb3⟩
  replace hres := hres.out; rw [hs3, PR.then_ok] at hres; change Hid _ at hres
  have fc3 := hR3.hi
  have hM3 := hM2.trans m3
  clear hs3
  go_wp2_with fail
  refine (skip_any hR3 (ByteArray.mk #[93]) (by decide)).mono ?_
  rcases hs4 : skipF T (ByteArray.mk #[93]) i3 (qnds q3) with ⟨u4, i4, ns4⟩ | ib
  rotate_left
  · rintro e wb ⟨rfl, hle, hB⟩
    replace hres := hres.out; rw [hs4, PR.then_bad] at hres; change Hid _ at hres
    go_wp2
    rw [hres.out]
    exact ⟨rfl, rfl, hle, (hM3.below h).trans hB⟩
  rintro e w4 ⟨rfl, hR4, rfl, m4⟩
  replace hres := hres.out; rw [hs4, PR.then_ok] at hres; change Hid _ at hres
  obtain ⟨fa4, fb4⟩ := skipF_ok hs4
  have hM4 := hM3.trans m4
  clear hs4
  go_wp2
  rw [hres.out]
  go_ret2
  exact ⟨rfl, nv3, q3, hR4, rfl, hM4, by omega, by omega⟩

def WriteC (base rb : Nat) (T : List Tk) (wv : Value) (en n : Nat) : Prop := ∀ (w : World) (i d : Nat) (nv : Value) (q : List Qn), Rd base rb T wv en w i d nv q → T.length - i ≤ n →
  Calls Try.prog 72 #[.pointer (some ⟨rb, 0, none⟩)] w (NRet base rb T wv en w nv q d (i + 1) (writeG T (fns T n) d i (qnds q)))

set_option maxHeartbeats 4000000 in
theorem write_step {base rb : Nat} {T : List Tk} {wv : Value} {en n : Nat} (hE : ExprC base rb T wv en n) (hRo : RowC base rb T wv en n) : WriteC base rb T wv en n := by
  intro w i d nv q h hn
  have hq0 := h.hq
  have hi0 := h.hi
  have hT6 : T.length ≤ 6000 := by obtain ⟨_, _, _, h, _⟩ := h.words; exact h
  obtain ⟨TOP, hTOP⟩ : ∃ r, writeG T (fns T n) d i (qnds q) = r := ⟨_, rfl⟩
  rw [hTOP]
  have hres : Hid (TOP = writeG T (fns T n) d i (qnds q)) := hTOP.symm
  clear hTOP
  replace hres := hres.out; unfold writeG at hres; change Hid _ at hres
  go_enter Try.func72, Try.ntmps72
  go_wp2_with fail
  refine (skip_any h (ByteArray.mk #[119, 114, 105, 116, 101]) (by decide)).mono ?_
  rcases hs1 : skipF T (ByteArray.mk #[119, 114, 105, 116, 101]) i (qnds q) with ⟨u1, i1, ns1⟩ | ib
  rotate_left
  · rintro e wb ⟨rfl, hle, hB⟩
    replace hres := hres.out; rw [hs1, PR.then_bad] at hres; change Hid _ at hres
    go_wp2
    rw [hres.out]
    exact ⟨rfl, rfl, hle, hB⟩
  rintro e w1 ⟨rfl, hR1, rfl, m1⟩
  replace hres := hres.out; rw [hs1, PR.then_ok] at hres; change Hid _ at hres
  obtain ⟨fa1, fb1⟩ := skipF_ok hs1
  have hM1 := m1
  clear hs1
  go_wp2_with fail
  refine (hRo w1 i1 d nv q hR1 (by omega)).mono ?_
  rcases hs2 : rowG T (fns T n) d i1 (qnds q) with ⟨x, i2, ns2⟩ | ib
  rotate_left
  · rintro e wb ⟨rfl, hle, hB⟩
    replace hres := hres.out; rw [hs2, PR.then_bad] at hres; change Hid _ at hres
    go_wp2
    rw [hres.out]
    exact ⟨rfl, rfl, hle, (hM1.below h).trans hB⟩
  rintro e w2 ⟨rfl, nv2, q2, hR2, rfl, m2, fa2, fb2⟩
  replace hres := hres.out; rw [hs2, PR.then_ok] at hres; change Hid _ at hres
  have fc2 := hR2.hi
  have hM2 := hM1.trans m2
  clear hs2
  go_wp2_with fail
  refine (skip_any hR2 (ByteArray.mk #[61]) (by decide)).mono ?_
  rcases hs3 : skipF T (ByteArray.mk #[61]) i2 (qnds q2) with ⟨u3, i3, ns3⟩ | ib
  rotate_left
  · rintro e wb ⟨rfl, hle, hB⟩
    replace hres := hres.out; rw [hs3, PR.then_bad] at hres; change Hid _ at hres
    go_wp2
    rw [hres.out]
    exact ⟨rfl, rfl, hle, (hM2.below h).trans hB⟩
  rintro e w3 ⟨rfl, hR3, rfl, m3⟩
  replace hres := hres.out; rw [hs3, PR.then_ok] at hres; change Hid _ at hres
  obtain ⟨fa3, fb3⟩ := skipF_ok hs3
  have hM3 := hM2.trans m3
  clear hs3
  go_wp2_with fail
  refine (hE w3 i3 d nv2 q2 hR3 (by omega)).mono ?_
  rcases hs4 : exprG T (fns T n) d i3 (qnds q2) with ⟨v, i4, ns4⟩ | ib
  rotate_left
  · rintro e wb ⟨rfl, hle, hB⟩
    replace hres := hres.out; rw [hs4, PR.then_bad] at hres; change Hid _ at hres
    go_wp2
    rw [hres.out]
    exact ⟨rfl, rfl, hle, (hM3.below h).trans hB⟩
  rintro e w4 ⟨rfl, nv4, q4, hR4, rfl, m4, fa4, fb4⟩
  replace hres := hres.out; rw [hs4, PR.then_ok] at hres; change Hid _ at hres
  have fc4 := hR4.hi
  have hM4 := hM3.trans m4
  clear hs4
  go_wp2_with fail
  refine (skip_any hR4 (ByteArray.mk #[59]) (by decide)).mono ?_
  rcases hs5 : skipF T (ByteArray.mk #[59]) i4 (qnds q4) with ⟨u5, i5, ns5⟩ | ib
  rotate_left
  · rintro e wb ⟨rfl, hle, hB⟩
    replace hres := hres.out; rw [hs5, PR.then_bad] at hres; change Hid _ at hres
    go_wp2
    rw [hres.out]
    exact ⟨rfl, rfl, hle, (hM4.below h).trans hB⟩
  rintro e w5 ⟨rfl, hR5, rfl, m5⟩
  replace hres := hres.out; rw [hs5, PR.then_ok] at hres; change Hid _ at hres
  obtain ⟨fa5, fb5⟩ := skipF_ok hs5
  have hM5 := hM4.trans m5
  clear hs5
  go_wp2_with fail
  refine (put_fresh hR5 ⟨22, empS, x.1, [(x.2 : Int), (v : Int)]⟩ (by omega) (by simp)).mono ?_
  rintro e w6 ⟨rfl, nv6, q6, hR6, hq6, m6, fb6⟩
  have hM6 := hM5.trans m6
  go_wp2
  rw [hres.out]
  go_ret
  exact ⟨rfl, nv6, q6, hR6, hq6, hM6, by omega, by omega⟩

def AssignC (base rb : Nat) (T : List Tk) (wv : Value) (en n : Nat) : Prop := ∀ (w : World) (i d : Nat) (nv : Value) (q : List Qn), Rd base rb T wv en w i d nv q → T.length - i ≤ n →
  Calls Try.prog 76 #[.pointer (some ⟨rb, 0, none⟩)] w (NRet base rb T wv en w nv q d (i + 1) (assignG T (fns T n) d i (qnds q)))

set_option maxHeartbeats 4000000 in
theorem assign_step {base rb : Nat} {T : List Tk} {wv : Value} {en n : Nat} (hE : ExprC base rb T wv en n) (hRo : RowC base rb T wv en n) : AssignC base rb T wv en n := by
  intro w i d nv q h hn
  have hq0 := h.hq
  have hi0 := h.hi
  have hT6 : T.length ≤ 6000 := by obtain ⟨_, _, _, h, _⟩ := h.words; exact h
  obtain ⟨TOP, hTOP⟩ : ∃ r, assignG T (fns T n) d i (qnds q) = r := ⟨_, rfl⟩
  rw [hTOP]
  have hres : Hid (TOP = assignG T (fns T n) d i (qnds q)) := hTOP.symm
  clear hTOP
  replace hres := hres.out; unfold assignG at hres; change Hid _ at hres
  go_enter Try.func76, Try.ntmps76
  go_wp2_with fail
  refine (take_any h 2 (by omega)).mono ?_
  rcases hs1 : takeF T 2 i (qnds q) with ⟨x, i1, ns1⟩ | ib
  rotate_left
  · rintro e wb ⟨rfl, hle, hB⟩
    replace hres := hres.out; rw [hs1, PR.then_bad] at hres; change Hid _ at hres
    go_wp2
    rw [hres.out]
    exact ⟨rfl, rfl, hle, hB⟩
  rintro e w1 ⟨rfl, hR1, rfl, m1⟩
  replace hres := hres.out; rw [hs1, PR.then_ok] at hres; change Hid _ at hres
  obtain ⟨fa1, fb1⟩ := takeF_ok hs1
  have hM1 := m1
  clear hs1
  have hfs_x : ∀ wy : World, (Instr.field 59 (.agg #[.int .i64 x.k, .string x.s, .int .i64 x.n, .int .i64 x.p]) 1).run Try.prog wy = .ok (.string x.s) wy := fun wy => by kernel_rfl
  have hfn_x : ∀ wy : World, (Instr.field 59 (.agg #[.int .i64 x.k, .string x.s, .int .i64 x.n, .int .i64 x.p]) 2).run Try.prog wy = .ok (.int .i64 x.n) wy := fun wy => by kernel_rfl
  go_wp2_with fail
  refine (skip_any hR1 (ByteArray.mk #[61]) (by decide)).mono ?_
  rcases hs2 : skipF T (ByteArray.mk #[61]) i1 (qnds q) with ⟨u2, i2, ns2⟩ | ib
  rotate_left
  · rintro e wb ⟨rfl, hle, hB⟩
    replace hres := hres.out; rw [hs2, PR.then_bad] at hres; change Hid _ at hres
    go_wp2
    rw [hres.out]
    exact ⟨rfl, rfl, hle, (hM1.below h).trans hB⟩
  rintro e w2 ⟨rfl, hR2, rfl, m2⟩
  replace hres := hres.out; rw [hs2, PR.then_ok] at hres; change Hid _ at hres
  obtain ⟨fa2, fb2⟩ := skipF_ok hs2
  have hM2 := hM1.trans m2
  clear hs2
  go_wp2_with fail
  refine (sees_any hR2 (ByteArray.mk #[114, 101, 97, 100])).mono ?_
  rintro e w3 ⟨rfl, hb3⟩
  have hR3 := hR2.stays hb3
  have hM3 := hM2.trans (Mv.of_below (rb := rb) (nv := nv) (q := q) hb3)
  by_cases hsee : wS T i2 = (ByteArray.mk #[114, 101, 97, 100])
  · have hdec : decide (wS T i2 = (ByteArray.mk #[114, 101, 97, 100])) = true := decide_eq_true hsee
    rw [hdec]
    replace hres := hres.out; rw [if_pos hsee] at hres; change Hid _ at hres
    clear hdec hsee
    go_wp2_with fail
    refine (skip_any hR3 (ByteArray.mk #[114, 101, 97, 100]) (by decide)).mono ?_
    rcases hs4 : skipF T (ByteArray.mk #[114, 101, 97, 100]) i2 (qnds q) with ⟨u4, i4, ns4⟩ | ib
    rotate_left
    · rintro e wb ⟨rfl, hle, hB⟩
      replace hres := hres.out; rw [hs4, PR.then_bad] at hres; change Hid _ at hres
      go_wp2
      rw [hres.out]
      exact ⟨rfl, rfl, hle, (hM3.below h).trans hB⟩
    rintro e w4 ⟨rfl, hR4, rfl, m4⟩
    replace hres := hres.out; rw [hs4, PR.then_ok] at hres; change Hid _ at hres
    obtain ⟨fa4, fb4⟩ := skipF_ok hs4
    have hM4 := hM3.trans m4
    clear hs4
    go_wp2_with fail
    refine (hRo w4 i4 d nv q hR4 (by omega)).mono ?_
    rcases hs5 : rowG T (fns T n) d i4 (qnds q) with ⟨y, i5, ns5⟩ | ib
    rotate_left
    · rintro e wb ⟨rfl, hle, hB⟩
      replace hres := hres.out; rw [hs5, PR.then_bad] at hres; change Hid _ at hres
      go_wp2
      rw [hres.out]
      exact ⟨rfl, rfl, hle, (hM4.below h).trans hB⟩
    rintro e w5 ⟨rfl, nv5, q5, hR5, rfl, m5, fa5, fb5⟩
    replace hres := hres.out; rw [hs5, PR.then_ok] at hres; change Hid _ at hres
    have fc5 := hR5.hi
    have hM5 := hM4.trans m5
    clear hs5
    go_wp2_with fail
    refine (skip_any hR5 (ByteArray.mk #[59]) (by decide)).mono ?_
    rcases hs6 : skipF T (ByteArray.mk #[59]) i5 (qnds q5) with ⟨u6, i6, ns6⟩ | ib
    rotate_left
    · rintro e wb ⟨rfl, hle, hB⟩
      replace hres := hres.out; rw [hs6, PR.then_bad] at hres; change Hid _ at hres
      go_wp2
      rw [hres.out]
      exact ⟨rfl, rfl, hle, (hM5.below h).trans hB⟩
    rintro e w6 ⟨rfl, hR6, rfl, m6⟩
    replace hres := hres.out; rw [hs6, PR.then_ok] at hres; change Hid _ at hres
    obtain ⟨fa6, fb6⟩ := skipF_ok hs6
    have hM6 := hM5.trans m6
    clear hs6
    go_wp2_with fail
    refine (put_fresh hR6 ⟨21, x.s, y.1, [(y.2 : Int)]⟩ (by omega) (by simp)).mono ?_
    rintro e w7 ⟨rfl, nv7, q7, hR7, hq7, m7, fb7⟩
    have hM7 := hM6.trans m7
    go_wp2
    rw [hres.out]
    go_ret
    exact ⟨rfl, nv7, q7, hR7, hq7, hM7, by omega, by omega⟩
  · have hdec : decide (wS T i2 = (ByteArray.mk #[114, 101, 97, 100])) = false := decide_eq_false hsee
    rw [hdec]
    replace hres := hres.out; rw [if_neg hsee] at hres; change Hid _ at hres
    clear hdec hsee
    go_wp2_with fail
    refine (hE w3 i2 d nv q hR3 (by omega)).mono ?_
    rcases hs4 : exprG T (fns T n) d i2 (qnds q) with ⟨v, i4, ns4⟩ | ib
    rotate_left
    · rintro e wb ⟨rfl, hle, hB⟩
      replace hres := hres.out; rw [hs4, PR.then_bad] at hres; change Hid _ at hres
      go_wp2
      rw [hres.out]
      exact ⟨rfl, rfl, hle, (hM3.below h).trans hB⟩
    rintro e w4 ⟨rfl, nv4, q4, hR4, rfl, m4, fa4, fb4⟩
    replace hres := hres.out; rw [hs4, PR.then_ok] at hres; change Hid _ at hres
    have fc4 := hR4.hi
    have hM4 := hM3.trans m4
    clear hs4
    go_wp2_with fail
    refine (skip_any hR4 (ByteArray.mk #[59]) (by decide)).mono ?_
    rcases hs5 : skipF T (ByteArray.mk #[59]) i4 (qnds q4) with ⟨u5, i5, ns5⟩ | ib
    rotate_left
    · rintro e wb ⟨rfl, hle, hB⟩
      replace hres := hres.out; rw [hs5, PR.then_bad] at hres; change Hid _ at hres
      go_wp2
      rw [hres.out]
      exact ⟨rfl, rfl, hle, (hM4.below h).trans hB⟩
    rintro e w5 ⟨rfl, hR5, rfl, m5⟩
    replace hres := hres.out; rw [hs5, PR.then_ok] at hres; change Hid _ at hres
    obtain ⟨fa5, fb5⟩ := skipF_ok hs5
    have hM5 := hM4.trans m5
    clear hs5
    go_wp2_with fail
    refine (put_fresh hR5 ⟨20, x.s, 0, [(v : Int)]⟩ (by omega) (by simp)).mono ?_
    rintro e w6 ⟨rfl, nv6, q6, hR6, hq6, m6, fb6⟩
    have hM6 := hM5.trans m6
    go_wp2
    rw [hres.out]
    go_ret
    exact ⟨rfl, nv6, q6, hR6, hq6, hM6, by omega, by omega⟩

theorem exprG_deep {T : List Tk} {R : Fns} {i : Nat} {ns : List Nd} : exprG T R 30 i ns = .bad i := by rw [exprG, if_pos rfl]
theorem exprG_not {T : List Tk} {R : Fns} {d i : Nat} {ns : List Nd} (h : ¬ d = 30) : exprG T R d i ns = (sumG T R (d + 1) i ns).then fun k i ns => match cmpKind (wS T i) with
    | some kd => (sumG T R (d + 1) (i + 1) ns).then fun b i ns => putF ⟨kd, empS, 0, [(k : Int), (b : Int)]⟩ i ns
    | none => .ok k i ns := by rw [exprG, if_neg h]; rfl

set_option maxHeartbeats 4000000 in
theorem expr_step {base rb : Nat} {T : List Tk} {wv : Value} {en n : Nat} (hS : SumC base rb T wv en n) : ExprC base rb T wv en n := by
  intro w i d nv q h hn
  have hq0 := h.hq
  have hi0 := h.hi
  have hT6 : T.length ≤ 6000 := by obtain ⟨_, _, _, h, _⟩ := h.words; exact h
  obtain ⟨TOP, hTOP⟩ : ∃ r, exprG T (fns T n) d i (qnds q) = r := ⟨_, rfl⟩
  rw [hTOP]
  have hres : Hid (TOP = exprG T (fns T n) d i (qnds q)) := hTOP.symm
  clear hTOP
  go_enter Try.func75, Try.ntmps75
  by_cases hd : d = 30
  · subst hd
    go_wp2_with fail
    refine (enter_bad h).mono ?_
    rintro e w1 ⟨rfl, hle, hB⟩
    replace hres := hres.out; rw [exprG_deep] at hres; change Hid _ at hres
    go_wp2
    rw [hres.out]
    exact ⟨rfl, rfl, hle, hB⟩
  replace hres := hres.out; rw [exprG_not hd] at hres; change Hid _ at hres
  go_wp2_with fail
  refine (enter_any h hd).mono ?_
  rintro e w1 ⟨rfl, hR1, m1⟩
  have hM1 := m1
  go_wp2_with fail
  refine (hS w1 i (d + 1) nv q hR1 (by omega)).mono ?_
  rcases hs2 : sumG T (fns T n) (d + 1) i (qnds q) with ⟨k, i2, ns2⟩ | ib
  rotate_left
  · rintro e wb ⟨rfl, hle, hB⟩
    replace hres := hres.out; rw [hs2, PR.then_bad] at hres; change Hid _ at hres
    go_wp2
    rw [hres.out]
    exact ⟨rfl, rfl, hle, (hM1.below h).trans hB⟩
  rintro e w2 ⟨rfl, nv2, q2, hR2, rfl, m2, fa2, fb2⟩
  replace hres := hres.out; rw [hs2, PR.then_ok] at hres; change Hid _ at hres
  have fc2 := hR2.hi
  have hM2 := hM1.trans m2
  clear hs2
  have hf : ∀ y : World, (Instr.field 59 (.agg #[.int .i64 (tkAt T i2).k, .string (tkAt T i2).s, .int .i64 (tkAt T i2).n, .int .i64 (tkAt T i2).p]) 1).run Try.prog y = .ok (.string (wS T i2)) y := fun y => by kernel_rfl
  go_wp2_with fail
  refine (word_any hR2).mono ?_
  rintro e w3 ⟨rfl, hb3⟩
  have hR3 := hR2.stays hb3
  have hM3 := hM2.trans (Mv.of_below (rb := rb) (nv := nv2) (q := q2) hb3)
  go_wp2_with fail
  refine (compareKind_any (wS T i2) _).mono ?_
  rintro e w4 ⟨rfl, rfl⟩
  rcases hkd : cmpKind (wS T i2) with _ | kd
  · replace hres := hres.out; rw [hkd] at hres; change Hid _ at hres
    clear hkd
    unfold kindV
    go_wp2_with fail
    refine (leave_any hR3).mono ?_
    rintro e w5 ⟨rfl, hR5, m5⟩
    have hM5 := hM3.trans m5
    go_wp2
    rw [hres.out]
    go_ret
    exact ⟨rfl, nv2, q2, hR5, rfl, hM5, by omega, by omega⟩
  · have hlt : i2 < T.length := by
      by_cases hl : i2 < T.length
      · exact hl
      · rw [wS, wS_end (by omega)] at hkd
        exact absurd (hkd.symm.trans kind_emp.2.2) (by simp)
    replace hres := hres.out; rw [hkd] at hres; change Hid _ at hres
    obtain ⟨_, _, c2, _, _⟩ := hR3.cells
    have f2 := hR3.row.frozen 2
    have hd30 := hR3.hd
    have hqq := hR3.hq
    obtain ⟨h5, m5⟩ := hR3.set 2 (.int .i64 ((i2 : Int) + 1)) (i' := i2 + 1) (d' := d + 1) (fun k hk => by
      match k, hk with
      | 0, _ => rfl
      | 1, _ => rfl
      | 2, _ => simp [rdf]
      | 3, _ => rfl
      | 4, _ => rfl) hlt hd30 (by omega)
    have hM5 := hM3.trans m5
    clear hkd
    unfold kindV
    go_wp2_with fail
    generalize w4.setCell ⟨rb, 2, none⟩ (.int .i64 ((i2 : Int) + 1)) = w5 at *
    go_wp2_with fail
    refine (hS w5 (i2 + 1) (d + 1) nv2 q2 h5 (by omega)).mono ?_
    rcases hs6 : sumG T (fns T n) (d + 1) (i2 + 1) (qnds q2) with ⟨b, i6, ns6⟩ | ib
    rotate_left
    · rintro e wb ⟨rfl, hle, hB⟩
      replace hres := hres.out; rw [hs6, PR.then_bad] at hres; change Hid _ at hres
      go_wp2
      rw [hres.out]
      exact ⟨rfl, rfl, hle, (hM5.below h).trans hB⟩
    rintro e w6 ⟨rfl, nv6, q6, hR6, rfl, m6, fa6, fb6⟩
    replace hres := hres.out; rw [hs6, PR.then_ok] at hres; change Hid _ at hres
    have fc6 := hR6.hi
    have hM6 := hM5.trans m6
    clear hs6
    go_wp2_with fail
    refine (put_fresh hR6 ⟨kd, empS, 0, [(k : Int), (b : Int)]⟩ (by omega) (by simp)).mono ?_
    rintro e w7 ⟨rfl, nv7, q7, hR7, hq7, m7, fb7⟩
    have hM7 := hM6.trans m7
    go_wp2_with fail
    refine (leave_any hR7).mono ?_
    rintro e w8 ⟨rfl, hR8, m8⟩
    have hM8 := hM7.trans m8
    go_wp2
    rw [hres.out]
    go_ret
    exact ⟨rfl, nv7, q7, hR8, hq7, hM8, by omega, by omega⟩

end Go.Proofs.Ytkdlgglikhbnkac
