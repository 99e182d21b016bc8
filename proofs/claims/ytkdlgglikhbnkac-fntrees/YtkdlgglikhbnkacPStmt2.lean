/- Loops, choices, statements and blocks. -/
import Derived.Test.YtkdlgglikhbnkacPKids
namespace Go.Proofs.Ytkdlgglikhbnkac
open Go.ChangeShapes Go.WideShapes Go.ChangeAt Go.RowKit
set_option linter.unusedVariables false
set_option maxRecDepth 100000
attribute [local go_sem ↓] Go.wp_at_zero Go.wp_at_succ

def BlockC (base rb : Nat) (T : List Tk) (wv : Value) (en n : Nat) : Prop := ∀ (w : World) (i d : Nat) (nv : Value) (q : List Qn), Rd base rb T wv en w i d nv q → T.length - i ≤ n →
  Calls Try.prog 52 #[.pointer (some ⟨rb, 0, none⟩)] w (NRet base rb T wv en w nv q d i (blockG T (fns T n) d i (qnds q)))

def LoopC (base rb : Nat) (T : List Tk) (wv : Value) (en n : Nat) : Prop := ∀ (w : World) (i d : Nat) (nv : Value) (q : List Qn), Rd base rb T wv en w i d nv q → T.length - i ≤ n →
  Calls Try.prog 74 #[.pointer (some ⟨rb, 0, none⟩)] w (NRet base rb T wv en w nv q d (i + 1) (loopG T (fns T n) d i (qnds q)))

set_option maxHeartbeats 4000000 in
theorem loop_step {base rb : Nat} {T : List Tk} {wv : Value} {en n : Nat} (hBl : ∀ m, m + 1 = n → BlockC base rb T wv en m) : LoopC base rb T wv en n := by
  intro w i d nv q h hn
  have hq0 := h.hq
  have hi0 := h.hi
  have hT6 : T.length ≤ 6000 := by obtain ⟨_, _, _, h, _⟩ := h.words; exact h
  obtain ⟨TOP, hTOP⟩ : ∃ r, loopG T (fns T n) d i (qnds q) = r := ⟨_, rfl⟩
  rw [hTOP]
  have hres : Hid (TOP = loopG T (fns T n) d i (qnds q)) := hTOP.symm
  clear hTOP
  replace hres := hres.out; unfold loopG at hres; change Hid _ at hres
  go_enter Try.func74, Try.ntmps74
  go_wp2_with fail
  refine (skip_any h (ByteArray.mk #[102, 111, 114]) (by decide)).mono ?_
  rcases hs1 : skipF T (ByteArray.mk #[102, 111, 114]) i (qnds q) with ⟨u1, i1, ns1⟩ | ib
  rotate_left
  · rintro e wb ⟨rfl, hle, hB⟩
    replace hres := hres.out; rw [hs1, PR.then_bad] at hres; change Hid _ at hres
    go_wp2
    rw [hres.out]
    exact ⟨rfl, rfl, hle, hB⟩
  rintro e w1 ⟨rfl, hR1, rfl, m1⟩
  replace hres := hres.out; rw [hs1, PR.then_ok] at hres; change Hid _ at hres
  obtain ⟨fa1, fb1⟩ := skipF_ok hs1
  have hM1 := m1
  clear hs1
  obtain ⟨m0, rfl⟩ : ∃ m0, n = m0 + 1 := ⟨n - 1, by have := hR1.hi; omega⟩
  replace hres := hres.out; simp only [fns_block] at hres; change Hid _ at hres
  go_wp2_with fail
  refine (take_any hR1 2 (by omega)).mono ?_
  rcases hs2 : takeF T 2 i1 (qnds q) with ⟨x, i2, ns2⟩ | ib
  rotate_left
  · rintro e wb ⟨rfl, hle, hB⟩
    replace hres := hres.out; rw [hs2, PR.then_bad] at hres; change Hid _ at hres
    go_wp2
    rw [hres.out]
    exact ⟨rfl, rfl, hle, (hM1.below h).trans hB⟩
  rintro e w2 ⟨rfl, hR2, rfl, m2⟩
  replace hres := hres.out; rw [hs2, PR.then_ok] at hres; change Hid _ at hres
  obtain ⟨fa2, fb2⟩ := takeF_ok hs2
  have hM2 := hM1.trans m2
  clear hs2
  have hfs_x : ∀ wy : World, (Instr.field 59 (.agg #[.int .i64 x.k, .string x.s, .int .i64 x.n, .int .i64 x.p]) 1).run Try.prog wy = .ok (.string x.s) wy := fun wy => by kernel_rfl
  have hfn_x : ∀ wy : World, (Instr.field 59 (.agg #[.int .i64 x.k, .string x.s, .int .i64 x.n, .int .i64 x.p]) 2).run Try.prog wy = .ok (.int .i64 x.n) wy := fun wy => by kernel_rfl
  go_wp2_with fail
  refine (skip_any hR2 (ByteArray.mk #[105, 110]) (by decide)).mono ?_
  rcases hs3 : skipF T (ByteArray.mk #[105, 110]) i2 (qnds q) with ⟨u3, i3, ns3⟩ | ib
  rotate_left
  · rintro e wb ⟨rfl, hle, hB⟩
    replace hres := hres.out; rw [hs3, PR.then_bad] at hres; change Hid _ at hres
    go_wp2
    rw [hres.out]
    exact ⟨rfl, rfl, hle, (hM2.below h).trans hB⟩
  rintro e w3 ⟨rfl, hR3, rfl, m3⟩
  replace hres := hres.out; rw [hs3, PR.then_ok] at hres; change Hid _ at hres
  obtain ⟨fa3, fb3⟩ := skipF_ok hs3
  have hM3 := hM2.trans m3
  clear hs3
  go_wp2_with fail
  refine (take_any hR3 1 (by omega)).mono ?_
  rcases hs4 : takeF T 1 i3 (qnds q) with ⟨y, i4, ns4⟩ | ib
  rotate_left
  · rintro e wb ⟨rfl, hle, hB⟩
    replace hres := hres.out; rw [hs4, PR.then_bad] at hres; change Hid _ at hres
    go_wp2
    rw [hres.out]
    exact ⟨rfl, rfl, hle, (hM3.below h).trans hB⟩
  rintro e w4 ⟨rfl, hR4, rfl, m4⟩
  replace hres := hres.out; rw [hs4, PR.then_ok] at hres; change Hid _ at hres
  obtain ⟨fa4, fb4⟩ := takeF_ok hs4
  have hM4 := hM3.trans m4
  clear hs4
  have hfs_y : ∀ wy : World, (Instr.field 59 (.agg #[.int .i64 y.k, .string y.s, .int .i64 y.n, .int .i64 y.p]) 1).run Try.prog wy = .ok (.string y.s) wy := fun wy => by kernel_rfl
  have hfn_y : ∀ wy : World, (Instr.field 59 (.agg #[.int .i64 y.k, .string y.s, .int .i64 y.n, .int .i64 y.p]) 2).run Try.prog wy = .ok (.int .i64 y.n) wy := fun wy => by kernel_rfl
  go_wp2_with fail
  refine (hBl m0 rfl w4 i4 d nv q hR4 (by omega)).mono ?_
  rcases hs5 : blockG T (fns T m0) d i4 (qnds q) with ⟨b, i5, ns5⟩ | ib
  rotate_left
  · rintro e wb ⟨rfl, hle, hB⟩
    replace hres := hres.out; rw [hs5, PR.then_bad] at hres; change Hid _ at hres
    go_wp2
    rw [hres.out]
    exact ⟨rfl, rfl, hle, (hM4.below h).trans hB⟩
  rintro e w5 ⟨rfl, nv5, q5, hR5, rfl, m5, fa5, fb5⟩
  replace hres := hres.out; rw [hs5, PR.then_ok] at hres; change Hid _ at hres
  have fc5 := hR5.hi
  have hM5 := hM4.trans m5
  clear hs5
  go_wp2_with fail
  refine (put_fresh hR5 ⟨24, x.s, y.n, [(b : Int)]⟩ (by omega) (by simp)).mono ?_
  rintro e w6 ⟨rfl, nv6, q6, hR6, hq6, m6, fb6⟩
  have hM6 := hM5.trans m6
  go_wp2
  rw [hres.out]
  go_ret
  exact ⟨rfl, nv6, q6, hR6, hq6, hM6, by omega, by omega⟩

def ChoiceC (base rb : Nat) (T : List Tk) (wv : Value) (en n : Nat) : Prop := ∀ (w : World) (i d : Nat) (nv : Value) (q : List Qn), Rd base rb T wv en w i d nv q → T.length - i ≤ n →
  Calls Try.prog 73 #[.pointer (some ⟨rb, 0, none⟩)] w (NRet base rb T wv en w nv q d (i + 1) (choiceG T (fns T n) d i (qnds q)))

set_option maxHeartbeats 4000000 in
theorem choice_step {base rb : Nat} {T : List Tk} {wv : Value} {en n : Nat} (hE : ExprC base rb T wv en n) (hBl : ∀ m, m + 1 = n → BlockC base rb T wv en m) : ChoiceC base rb T wv en n := by
  intro w i d nv q h hn
  have hq0 := h.hq
  have hi0 := h.hi
  have hT6 : T.length ≤ 6000 := by obtain ⟨_, _, _, h, _⟩ := h.words; exact h
  obtain ⟨TOP, hTOP⟩ : ∃ r, choiceG T (fns T n) d i (qnds q) = r := ⟨_, rfl⟩
  rw [hTOP]
  have hres : Hid (TOP = choiceG T (fns T n) d i (qnds q)) := hTOP.symm
  clear hTOP
  obtain ⟨iI, hII, hzi0, hzi1, hzi2⟩ := info_parts infoI
  replace hres := hres.out; unfold choiceG at hres; change Hid _ at hres
  go_enter Try.func73, Try.ntmps73
  go_wp2_with fail
  refine (skip_any h (ByteArray.mk #[105, 102]) (by decide)).mono ?_
  rcases hs1 : skipF T (ByteArray.mk #[105, 102]) i (qnds q) with ⟨u1, i1, ns1⟩ | ib
  rotate_left
  · rintro e wb ⟨rfl, hle, hB⟩
    replace hres := hres.out; rw [hs1, PR.then_bad] at hres; change Hid _ at hres
    go_wp2
    rw [hres.out]
    exact ⟨rfl, rfl, hle, hB⟩
  rintro e w1 ⟨rfl, hR1, rfl, m1⟩
  replace hres := hres.out; rw [hs1, PR.then_ok] at hres; change Hid _ at hres
  obtain ⟨fa1, fb1⟩ := skipF_ok hs1
  have hM1 := m1
  clear hs1
  obtain ⟨m0, rfl⟩ : ∃ m0, n = m0 + 1 := ⟨n - 1, by have := hR1.hi; omega⟩
  replace hres := hres.out; simp only [fns_block] at hres; change Hid _ at hres
  go_wp2_with fail
  refine (skip_any hR1 (ByteArray.mk #[40]) (by decide)).mono ?_
  rcases hs2 : skipF T (ByteArray.mk #[40]) i1 (qnds q) with ⟨u2, i2, ns2⟩ | ib
  rotate_left
  · rintro e wb ⟨rfl, hle, hB⟩
    replace hres := hres.out; rw [hs2, PR.then_bad] at hres; change Hid _ at hres
    go_wp2
    rw [hres.out]
    exact ⟨rfl, rfl, hle, (hM1.below h).trans hB⟩
  rintro e w2 ⟨rfl, hR2, rfl, m2⟩
  replace hres := hres.out; rw [hs2, PR.then_ok] at hres; change Hid _ at hres
  obtain ⟨fa2, fb2⟩ := skipF_ok hs2
  have hM2 := hM1.trans m2
  clear hs2
  go_wp2_with fail
  refine (hE w2 i2 d nv q hR2 (by omega)).mono ?_
  rcases hs3 : exprG T (fns T (m0 + 1)) d i2 (qnds q) with ⟨k1, i3, ns3⟩ | ib
  rotate_left
  · rintro e wb ⟨rfl, hle, hB⟩
    replace hres := hres.out; rw [hs3, PR.then_bad] at hres; change Hid _ at hres
    go_wp2
    rw [hres.out]
    exact ⟨rfl, rfl, hle, (hM2.below h).trans hB⟩
  rintro e w3 ⟨rfl, nv3, q3, hR3, rfl, m3, fa3, fb3⟩
  replace hres := hres.out; rw [hs3, PR.then_ok] at hres; change Hid _ at hres
  have fc3 := hR3.hi
  have hM3 := hM2.trans m3
  clear hs3
  have hL3 := Loc.fresh hR3 (lo := w.heap.size) hM3.size [(k1 : Int)] (by simp)
  have bA3 : Below w3.heap.size w3 (w3.alloc (Obj.cells (icells [(k1 : Int)]).toArray 3)) := (Below.refl _ _).alloc (Nat.le_refl _) _
  have hRA := hR3.stays bA3
  have hMA := hM3.trans (Mv.of_below (rb := rb) (nv := nv3) (q := q3) bA3)
  go_wp2_with fail
  change Calls _ _ _ (w3.alloc (Obj.cells (icells [(k1 : Int)]).toArray 3)) _
  generalize hWA : w3.alloc (Obj.cells (icells [(k1 : Int)]).toArray 3) = wA at *
  clear hWA bA3
  go_wp2_with fail
  refine (skip_any hRA (ByteArray.mk #[41]) (by decide)).mono ?_
  rcases hs4 : skipF T (ByteArray.mk #[41]) i3 (qnds q3) with ⟨u4, i4, ns4⟩ | ib
  rotate_left
  · rintro e wb ⟨rfl, hle, hB⟩
    replace hres := hres.out; rw [hs4, PR.then_bad] at hres; change Hid _ at hres
    go_wp2
    rw [hres.out]
    exact ⟨rfl, rfl, hle, (hMA.below h).trans hB⟩
  rintro e w4 ⟨rfl, hR4, rfl, m4⟩
  replace hres := hres.out; rw [hs4, PR.then_ok] at hres; change Hid _ at hres
  obtain ⟨fa4, fb4⟩ := skipF_ok hs4
  have hM4 := hMA.trans m4
  clear hs4
  have hLa := hL3.mv m4
  go_wp2_with fail
  refine (hBl m0 rfl w4 i4 d nv3 q3 hR4 (by omega)).mono ?_
  rcases hs5 : blockG T (fns T m0) d i4 (qnds q3) with ⟨k2, i5, ns5⟩ | ib
  rotate_left
  · rintro e wb ⟨rfl, hle, hB⟩
    replace hres := hres.out; rw [hs5, PR.then_bad] at hres; change Hid _ at hres
    go_wp2
    rw [hres.out]
    exact ⟨rfl, rfl, hle, (hM4.below h).trans hB⟩
  rintro e w5 ⟨rfl, nv5, q5, hR5, rfl, m5, fa5, fb5⟩
  replace hres := hres.out; rw [hs5, PR.then_ok] at hres; change Hid _ at hres
  have fc5 := hR5.hi
  have hM5 := hM4.trans m5
  clear hs5
  have hLb := hLa.mv m5
  go_wp2_with (at_builtin; refine wpList_append_lies _ rfl _ _ 31 rfl base 3 iI _ 1 8 Try.underlying31 hII hzi0 hzi1 hzi2 rfl (by decide) _ 1 (icells [(k1 : Int)]) rfl (hLb.row.alloc _) ⟨w5.heap.size, 0, none⟩ 1 1 [.int .i64 (k2 : Int)] rfl rfl (World.news_of_block (heap_alloc_new w5 _)) (by simp [Value.oneCell']) (by simp) (by unfold maxLen; omega) (by omega) (by simp; have := hR5.base_le; omega) (w5.heap.size + 1) (by simp) ?_; intro g6 cap6 w6 hown6 hgrow6 hat6 hlt6)
  obtain ⟨hR6, hL6, hMx6⟩ := Loc.grow hR5 hLb (by have := hM5.size; omega) hown6 hgrow6 hat6
  have hM6 := hMx6 _ _ _ hM5 (Nat.le_refl _)
  clear hown6 hgrow6 hat6 hlt6 hMx6
  refine (sees_any hR6 (ByteArray.mk #[101, 108, 115, 101])).mono ?_
  rintro e wS0 ⟨rfl, hbS⟩
  have hRS := hR6.stays hbS
  have mS := Mv.of_below (rb := rb) (nv := nv5) (q := q5) hbS
  have hMS := hM6.trans mS
  have hLS := hL6.mv mS
  by_cases hsee : wS T i5 = (ByteArray.mk #[101, 108, 115, 101])
  · have hdec : decide (wS T i5 = (ByteArray.mk #[101, 108, 115, 101])) = true := decide_eq_true hsee
    rw [hdec]
    replace hres := hres.out; rw [if_pos hsee] at hres; change Hid _ at hres
    clear hdec hsee
    go_wp2_with fail
    refine (skip_any hRS (ByteArray.mk #[101, 108, 115, 101]) (by decide)).mono ?_
    rcases hs7 : skipF T (ByteArray.mk #[101, 108, 115, 101]) i5 (qnds q5) with ⟨u7, i7, ns7⟩ | ib
    rotate_left
    · rintro e wb ⟨rfl, hle, hB⟩
      replace hres := hres.out; rw [hs7, PR.then_bad] at hres; change Hid _ at hres
      go_wp2
      rw [hres.out]
      exact ⟨rfl, rfl, hle, (hMS.below h).trans hB⟩
    rintro e w7 ⟨rfl, hR7, rfl, m7⟩
    replace hres := hres.out; rw [hs7, PR.then_ok] at hres; change Hid _ at hres
    obtain ⟨fa7, fb7⟩ := skipF_ok hs7
    have hM7 := hMS.trans m7
    clear hs7
    have hLc := hLS.mv m7
    go_wp2_with fail
    refine (hBl m0 rfl w7 i7 d nv5 q5 hR7 (by omega)).mono ?_
    rcases hs8 : blockG T (fns T m0) d i7 (qnds q5) with ⟨k3, i8, ns8⟩ | ib
    rotate_left
    · rintro e wb ⟨rfl, hle, hB⟩
      replace hres := hres.out; rw [hs8, PR.then_bad] at hres; change Hid _ at hres
      go_wp2
      rw [hres.out]
      exact ⟨rfl, rfl, hle, (hM7.below h).trans hB⟩
    rintro e w8 ⟨rfl, nv8, q8, hR8, rfl, m8, fa8, fb8⟩
    replace hres := hres.out; rw [hs8, PR.then_ok] at hres; change Hid _ at hres
    have fc8 := hR8.hi
    have hM8 := hM7.trans m8
    clear hs8
    have hLd := hLc.mv m8
    go_wp2_with (at_builtin; refine wpList_append_lies _ rfl _ _ 31 rfl base 3 iI _ 1 8 Try.underlying31 hII hzi0 hzi1 hzi2 rfl (by decide) _ 2 (icells ([(k1 : Int)] ++ [(k2 : Int)])) rfl (hLd.row.alloc _) ⟨w8.heap.size, 0, none⟩ 1 1 [.int .i64 (k3 : Int)] rfl rfl (World.news_of_block (heap_alloc_new w8 _)) (by simp [Value.oneCell']) (by simp) (by unfold maxLen; omega) (by omega) (by simp; have := hR8.base_le; omega) (w8.heap.size + 1) (by simp) ?_; intro g9 cap9 w9 hown9 hgrow9 hat9 hlt9)
    obtain ⟨hR9, hL9, hMx9⟩ := Loc.grow hR8 hLd (by have := hM8.size; omega) hown9 hgrow9 hat9
    have hM9 := hMx9 _ _ _ hM8 (Nat.le_refl _)
    clear hown9 hgrow9 hat9 hlt9 hMx9
    refine (put_loc hR9 ⟨23, empS, 0, [(k1 : Int), (k2 : Int), (k3 : Int)]⟩ rfl hL9 (by omega)).mono ?_
    rintro e w10 ⟨rfl, nv10, q10, hR10, hq10, hMx10, fb10⟩
    have hM10 := hMx10 _ _ _ hM9 (Nat.le_refl _)
    go_wp2
    rw [hres.out]
    go_ret
    exact ⟨rfl, nv10, q10, hR10, hq10, hM10, by omega, by omega⟩
  · have hdec : decide (wS T i5 = (ByteArray.mk #[101, 108, 115, 101])) = false := decide_eq_false hsee
    rw [hdec]
    replace hres := hres.out; rw [if_neg hsee] at hres; change Hid _ at hres
    clear hdec hsee
    go_wp2_with fail
    refine (put_loc hRS ⟨23, empS, 0, [(k1 : Int), (k2 : Int)]⟩ rfl hLS (by omega)).mono ?_
    rintro e w7 ⟨rfl, nv7, q7, hR7, hq7, hMx7, fb7⟩
    have hM7 := hMx7 _ _ _ hMS (Nat.le_refl _)
    go_wp2
    rw [hres.out]
    go_ret
    exact ⟨rfl, nv7, q7, hR7, hq7, hM7, by omega, by omega⟩

def StmtC (base rb : Nat) (T : List Tk) (wv : Value) (en n : Nat) : Prop := ∀ (w : World) (i d : Nat) (nv : Value) (q : List Qn), Rd base rb T wv en w i d nv q → T.length - i ≤ n →
  Calls Try.prog 66 #[.pointer (some ⟨rb, 0, none⟩)] w (NRet base rb T wv en w nv q d (i + 1) (stmtG T (fns T n) d i (qnds q)))

set_option maxHeartbeats 4000000 in
theorem stmt_step {base rb : Nat} {T : List Tk} {wv : Value} {en n : Nat} (hE : ExprC base rb T wv en n) (hW : WriteC base rb T wv en n) (hCh : ChoiceC base rb T wv en n) (hLp : LoopC base rb T wv en n) (hAs : AssignC base rb T wv en n) : StmtC base rb T wv en n := by
  intro w i d nv q h hn
  have hq0 := h.hq
  have hi0 := h.hi
  have hT6 : T.length ≤ 6000 := by obtain ⟨_, _, _, h, _⟩ := h.words; exact h
  obtain ⟨TOP, hTOP⟩ : ∃ r, stmtG T (fns T n) d i (qnds q) = r := ⟨_, rfl⟩
  rw [hTOP]
  have hres : Hid (TOP = stmtG T (fns T n) d i (qnds q)) := hTOP.symm
  clear hTOP
  replace hres := hres.out; unfold stmtG at hres; change Hid _ at hres
  go_enter Try.func66, Try.ntmps66
  go_wp2_with fail
  refine (sees_any h (ByteArray.mk #[119, 114, 105, 116, 101])).mono ?_
  rintro e w1 ⟨rfl, hb1⟩
  have hR1 := h.stays hb1
  have hM1 := Mv.of_below (rb := rb) (nv := nv) (q := q) hb1
  by_cases hsee : wS T i = (ByteArray.mk #[119, 114, 105, 116, 101])
  · have hdec : decide (wS T i = (ByteArray.mk #[119, 114, 105, 116, 101])) = true := decide_eq_true hsee
    rw [hdec]
    replace hres := hres.out; rw [if_pos hsee] at hres; change Hid _ at hres
    clear hdec hsee
    go_wp2_with fail
    refine (hW w1 i d nv q hR1 hn).mono ?_
    rcases hs : writeG T (fns T n) d i (qnds q) with ⟨k0, i0, ns0⟩ | ib
    · rintro e wz ⟨rfl, nvz, qz, hRz, rfl, mz, faz, fbz⟩
      replace hres := hres.out; rw [hs] at hres; change Hid _ at hres
      go_wp2
      rw [hres.out]
      go_ret
      exact ⟨rfl, nvz, qz, hRz, rfl, hM1.trans mz, faz, fbz⟩
    · rintro e wz ⟨rfl, hle, hB⟩
      replace hres := hres.out; rw [hs] at hres; change Hid _ at hres
      go_wp2
      rw [hres.out]
      exact ⟨rfl, rfl, hle, (hM1.below h).trans hB⟩
  have hdec : decide (wS T i = (ByteArray.mk #[119, 114, 105, 116, 101])) = false := decide_eq_false hsee
  rw [hdec]
  replace hres := hres.out; rw [if_neg hsee] at hres; change Hid _ at hres
  clear hdec hsee
  go_wp2_with fail
  refine (sees_any hR1 (ByteArray.mk #[105, 102])).mono ?_
  rintro e w2 ⟨rfl, hb2⟩
  have hR2 := hR1.stays hb2
  have hM2 := hM1.trans (Mv.of_below (rb := rb) (nv := nv) (q := q) hb2)
  by_cases hsee : wS T i = (ByteArray.mk #[105, 102])
  · have hdec : decide (wS T i = (ByteArray.mk #[105, 102])) = true := decide_eq_true hsee
    rw [hdec]
    replace hres := hres.out; rw [if_pos hsee] at hres; change Hid _ at hres
    clear hdec hsee
    go_wp2_with fail
    refine (hCh w2 i d nv q hR2 hn).mono ?_
    rcases hs : choiceG T (fns T n) d i (qnds q) with ⟨k0, i0, ns0⟩ | ib
    · rintro e wz ⟨rfl, nvz, qz, hRz, rfl, mz, faz, fbz⟩
      replace hres := hres.out; rw [hs] at hres; change Hid _ at hres
      go_wp2
      rw [hres.out]
      go_ret
      exact ⟨rfl, nvz, qz, hRz, rfl, hM2.trans mz, faz, fbz⟩
    · rintro e wz ⟨rfl, hle, hB⟩
      replace hres := hres.out; rw [hs] at hres; change Hid _ at hres
      go_wp2
      rw [hres.out]
      exact ⟨rfl, rfl, hle, (hM2.below h).trans hB⟩
  have hdec : decide (wS T i = (ByteArray.mk #[105, 102])) = false := decide_eq_false hsee
  rw [hdec]
  replace hres := hres.out; rw [if_neg hsee] at hres; change Hid _ at hres
  clear hdec hsee
  go_wp2_with fail
  refine (sees_any hR2 (ByteArray.mk #[102, 111, 114])).mono ?_
  rintro e w3 ⟨rfl, hb3⟩
  have hR3 := hR2.stays hb3
  have hM3 := hM2.trans (Mv.of_below (rb := rb) (nv := nv) (q := q) hb3)
  by_cases hsee : wS T i = (ByteArray.mk #[102, 111, 114])
  · have hdec : decide (wS T i = (ByteArray.mk #[102, 111, 114])) = true := decide_eq_true hsee
    rw [hdec]
    replace hres := hres.out; rw [if_pos hsee] at hres; change Hid _ at hres
    clear hdec hsee
    go_wp2_with fail
    refine (hLp w3 i d nv q hR3 hn).mono ?_
    rcases hs : loopG T (fns T n) d i (qnds q) with ⟨k0, i0, ns0⟩ | ib
    · rintro e wz ⟨rfl, nvz, qz, hRz, rfl, mz, faz, fbz⟩
      replace hres := hres.out; rw [hs] at hres; change Hid _ at hres
      go_wp2
      rw [hres.out]
      go_ret
      exact ⟨rfl, nvz, qz, hRz, rfl, hM3.trans mz, faz, fbz⟩
    · rintro e wz ⟨rfl, hle, hB⟩
      replace hres := hres.out; rw [hs] at hres; change Hid _ at hres
      go_wp2
      rw [hres.out]
      exact ⟨rfl, rfl, hle, (hM3.below h).trans hB⟩
  have hdec : decide (wS T i = (ByteArray.mk #[102, 111, 114])) = false := decide_eq_false hsee
  rw [hdec]
  replace hres := hres.out; rw [if_neg hsee] at hres; change Hid _ at hres
  clear hdec hsee
  go_wp2_with fail
  refine (sees_any hR3 (ByteArray.mk #[97, 98, 111, 114, 116])).mono ?_
  rintro e w4 ⟨rfl, hb4⟩
  have hR4 := hR3.stays hb4
  have hM4 := hM3.trans (Mv.of_below (rb := rb) (nv := nv) (q := q) hb4)
  by_cases hsee : wS T i = (ByteArray.mk #[97, 98, 111, 114, 116])
  · have hdec : decide (wS T i = (ByteArray.mk #[97, 98, 111, 114, 116])) = true := decide_eq_true hsee
    rw [hdec]
    replace hres := hres.out; rw [if_pos hsee] at hres; change Hid _ at hres
    clear hdec hsee
    go_wp2_with fail
    refine (skip_any hR4 (ByteArray.mk #[97, 98, 111, 114, 116]) (by decide)).mono ?_
    rcases hs41 : skipF T (ByteArray.mk #[97, 98, 111, 114, 116]) i (qnds q) with ⟨u41, i41, ns41⟩ | ib
    rotate_left
    · rintro e wb ⟨rfl, hle, hB⟩
      replace hres := hres.out; rw [hs41, PR.then_bad] at hres; change Hid _ at hres
      go_wp2
      rw [hres.out]
      exact ⟨rfl, rfl, hle, (hM4.below h).trans hB⟩
    rintro e w41 ⟨rfl, hR41, rfl, m41⟩
    replace hres := hres.out; rw [hs41, PR.then_ok] at hres; change Hid _ at hres
    obtain ⟨fa41, fb41⟩ := skipF_ok hs41
    have hM41 := hM4.trans m41
    clear hs41
    go_wp2_with fail
    refine (skip_any hR41 (ByteArray.mk #[59]) (by decide)).mono ?_
    rcases hs42 : skipF T (ByteArray.mk #[59]) i41 (qnds q) with ⟨u42, i42, ns42⟩ | ib
    rotate_left
    · rintro e wb ⟨rfl, hle, hB⟩
      replace hres := hres.out; rw [hs42, PR.then_bad] at hres; change Hid _ at hres
      go_wp2
      rw [hres.out]
      exact ⟨rfl, rfl, hle, (hM41.below h).trans hB⟩
    rintro e w42 ⟨rfl, hR42, rfl, m42⟩
    replace hres := hres.out; rw [hs42, PR.then_ok] at hres; change Hid _ at hres
    obtain ⟨fa42, fb42⟩ := skipF_ok hs42
    have hM42 := hM41.trans m42
    clear hs42
    go_wp2_with fail
    refine (put_none hR42 ⟨25, empS, 0, []⟩ rfl (by omega)).mono ?_
    rintro e w43 ⟨rfl, nv43, q43, hR43, hq43, m43, fb43⟩
    have hM43 := hM42.trans m43
    go_wp2
    rw [hres.out]
    go_ret
    exact ⟨rfl, nv43, q43, hR43, hq43, hM43, by omega, by omega⟩
  have hdec : decide (wS T i = (ByteArray.mk #[97, 98, 111, 114, 116])) = false := decide_eq_false hsee
  rw [hdec]
  replace hres := hres.out; rw [if_neg hsee] at hres; change Hid _ at hres
  clear hdec hsee
  go_wp2_with fail
  refine (sees_any hR4 (ByteArray.mk #[114, 101, 116, 117, 114, 110])).mono ?_
  rintro e w5 ⟨rfl, hb5⟩
  have hR5 := hR4.stays hb5
  have hM5 := hM4.trans (Mv.of_below (rb := rb) (nv := nv) (q := q) hb5)
  by_cases hsee : wS T i = (ByteArray.mk #[114, 101, 116, 117, 114, 110])
  · have hdec : decide (wS T i = (ByteArray.mk #[114, 101, 116, 117, 114, 110])) = true := decide_eq_true hsee
    rw [hdec]
    replace hres := hres.out; rw [if_pos hsee] at hres; change Hid _ at hres
    clear hdec hsee
    go_wp2_with fail
    refine (skip_any hR5 (ByteArray.mk #[114, 101, 116, 117, 114, 110]) (by decide)).mono ?_
    rcases hs51 : skipF T (ByteArray.mk #[114, 101, 116, 117, 114, 110]) i (qnds q) with ⟨u51, i51, ns51⟩ | ib
    rotate_left
    · rintro e wb ⟨rfl, hle, hB⟩
      replace hres := hres.out; rw [hs51, PR.then_bad] at hres; change Hid _ at hres
      go_wp2
      rw [hres.out]
      exact ⟨rfl, rfl, hle, (hM5.below h).trans hB⟩
    rintro e w51 ⟨rfl, hR51, rfl, m51⟩
    replace hres := hres.out; rw [hs51, PR.then_ok] at hres; change Hid _ at hres
    obtain ⟨fa51, fb51⟩ := skipF_ok hs51
    have hM51 := hM5.trans m51
    clear hs51
    go_wp2_with fail
    refine (hE w51 i51 d nv q hR51 (by omega)).mono ?_
    rcases hs52 : exprG T (fns T n) d i51 (qnds q) with ⟨v, i52, ns52⟩ | ib
    rotate_left
    · rintro e wb ⟨rfl, hle, hB⟩
      replace hres := hres.out; rw [hs52, PR.then_bad] at hres; change Hid _ at hres
      go_wp2
      rw [hres.out]
      exact ⟨rfl, rfl, hle, (hM51.below h).trans hB⟩
    rintro e w52 ⟨rfl, nv52, q52, hR52, rfl, m52, fa52, fb52⟩
    replace hres := hres.out; rw [hs52, PR.then_ok] at hres; change Hid _ at hres
    have fc52 := hR52.hi
    have hM52 := hM51.trans m52
    clear hs52
    go_wp2_with fail
    refine (skip_any hR52 (ByteArray.mk #[59]) (by decide)).mono ?_
    rcases hs53 : skipF T (ByteArray.mk #[59]) i52 (qnds q52) with ⟨u53, i53, ns53⟩ | ib
    rotate_left
    · rintro e wb ⟨rfl, hle, hB⟩
      replace hres := hres.out; rw [hs53, PR.then_bad] at hres; change Hid _ at hres
      go_wp2
      rw [hres.out]
      exact ⟨rfl, rfl, hle, (hM52.below h).trans hB⟩
    rintro e w53 ⟨rfl, hR53, rfl, m53⟩
    replace hres := hres.out; rw [hs53, PR.then_ok] at hres; change Hid _ at hres
    obtain ⟨fa53, fb53⟩ := skipF_ok hs53
    have hM53 := hM52.trans m53
    clear hs53
    go_wp2_with fail
    refine (put_fresh hR53 ⟨26, empS, 0, [(v : Int)]⟩ (by omega) (by simp)).mono ?_
    rintro e w54 ⟨rfl, nv54, q54, hR54, hq54, m54, fb54⟩
    have hM54 := hM53.trans m54
    go_wp2
    rw [hres.out]
    go_ret
    exact ⟨rfl, nv54, q54, hR54, hq54, hM54, by omega, by omega⟩
  have hdec : decide (wS T i = (ByteArray.mk #[114, 101, 116, 117, 114, 110])) = false := decide_eq_false hsee
  rw [hdec]
  replace hres := hres.out; rw [if_neg hsee] at hres; change Hid _ at hres
  clear hdec hsee
  go_wp2_with fail
  refine (hAs w5 i d nv q hR5 hn).mono ?_
  rcases hs : assignG T (fns T n) d i (qnds q) with ⟨k0, i0, ns0⟩ | ib
  · rintro e wz ⟨rfl, nvz, qz, hRz, rfl, mz, faz, fbz⟩
    replace hres := hres.out; rw [hs] at hres; change Hid _ at hres
    go_wp2
    rw [hres.out]
    go_ret
    exact ⟨rfl, nvz, qz, hRz, rfl, hM5.trans mz, faz, fbz⟩
  · rintro e wz ⟨rfl, hle, hB⟩
    replace hres := hres.out; rw [hs] at hres; change Hid _ at hres
    go_wp2
    rw [hres.out]
    exact ⟨rfl, rfl, hle, (hM5.below h).trans hB⟩

theorem blockLG_end {T : List Tk} {R : Fns} {d : Nat} {kids : List Int} {i : Nat} {ns : List Nd} (h : wS T i = (ByteArray.mk #[125])) : blockLG T R d kids i ns = .ok kids i ns := by rw [blockLG, if_pos h]
theorem blockLG_more {T : List Tk} {m d : Nat} {kids : List Int} {i : Nat} {ns : List Nd} (h : ¬ wS T i = (ByteArray.mk #[125])) : blockLG T (fns T m) d kids i ns = (stmtG T (fns T m) d i ns).then fun k i ns => (fns T m).blockL d (kids ++ [(k : Int)]) i ns := by rw [blockLG, if_neg h]
theorem blockG_deep {T : List Tk} {R : Fns} {i : Nat} {ns : List Nd} : blockG T R 30 i ns = .bad i := by rw [blockG, if_pos rfl]
theorem blockG_not {T : List Tk} {R : Fns} {d i : Nat} {ns : List Nd} (h : ¬ d = 30) : blockG T R d i ns = (skipF T (ByteArray.mk #[123]) i ns).then fun _ i ns => (blockLG T R (d + 1) [] i ns).then fun kids i ns => (skipF T (ByteArray.mk #[125]) i ns).then fun _ i ns => putF ⟨27, empS, 0, kids⟩ i ns := by rw [blockG, if_neg h]

set_option maxHeartbeats 4000000 in
theorem block_step {base rb : Nat} {T : List Tk} {wv : Value} {en n : Nat} (hSt : ∀ m, m ≤ n → StmtC base rb T wv en m) : BlockC base rb T wv en n := by
  intro w i d nv q h hn
  have hq0 := h.hq
  have hi0 := h.hi
  have hT6 : T.length ≤ 6000 := by obtain ⟨_, _, _, h, _⟩ := h.words; exact h
  obtain ⟨TOP, hTOP⟩ : ∃ r, blockG T (fns T n) d i (qnds q) = r := ⟨_, rfl⟩
  rw [hTOP]
  have hres : Hid (TOP = blockG T (fns T n) d i (qnds q)) := hTOP.symm
  clear hTOP
  obtain ⟨iI, hII, hzi0, hzi1, hzi2⟩ := info_parts infoI
  go_enter Try.func52, Try.ntmps52
  by_cases hd : d = 30
  · subst hd
    go_wp2_with fail
    refine (enter_bad h).mono ?_
    rintro e w1 ⟨rfl, hle, hB⟩
    replace hres := hres.out; rw [blockG_deep] at hres; change Hid _ at hres
    go_wp2
    rw [hres.out]
    exact ⟨rfl, rfl, hle, hB⟩
  replace hres := hres.out; rw [blockG_not hd] at hres; change Hid _ at hres
  go_wp2_with fail
  refine (enter_any h hd).mono ?_
  rintro e w1 ⟨rfl, hR1, m1⟩
  have hM1 := m1
  go_wp2_with fail
  refine (skip_any hR1 (ByteArray.mk #[123]) (by decide)).mono ?_
  rcases hs2 : skipF T (ByteArray.mk #[123]) i (qnds q) with ⟨u2, i2, ns2⟩ | ib
  rotate_left
  · rintro e wb ⟨rfl, hle, hB⟩
    replace hres := hres.out; rw [hs2, PR.then_bad] at hres; change Hid _ at hres
    go_wp2
    rw [hres.out]
    exact ⟨rfl, rfl, hle, (hM1.below h).trans hB⟩
  rintro e w2 ⟨rfl, hR2, rfl, m2⟩
  replace hres := hres.out; rw [hs2, PR.then_ok] at hres; change Hid _ at hres
  obtain ⟨fa2, fb2⟩ := skipF_ok hs2
  have hM2 := hM1.trans m2
  clear hs2
  have hL0 : Loc w.heap.size base rb w2 nv q (.slice none 0 0) [] := Loc.nil
  have fc := hR2.hi
  go_wp2_with fail
  go_loopw [3] (fun t3 wr => ∃ (m : Nat) (kids : List Int) (i' : Nat) (nv' : Value) (q' : List Qn) (ka : Option Addr) (kc : Nat), t3 = .slice ka kids.length kc ∧ Rd base rb T wv en wr i' (d + 1) nv' q' ∧ Loc w.heap.size base rb wr nv' q' (.slice ka kids.length kc) kids ∧ T.length - i' ≤ m ∧ m ≤ n ∧ Hid (TOP = (blockLG T (fns T m) (d + 1) kids i' (qnds q')).then fun kids i ns => (skipF T (ByteArray.mk #[125]) i ns).then fun _ i ns => putF ⟨27, empS, 0, kids⟩ i ns) ∧ Mv rb w nv q wr nv' q' ∧ i + 1 ≤ i' ∧ q'.length + i + 1 ≤ q.length + i' ∧ kids.length ≤ i') (fun _ wr => T.length - posOf wr rb)
  case atStart => exact ⟨n, [], i2, nv, q, none, 0, rfl, hR2, hL0, by omega, Nat.le_refl _, hres, hM2, by omega, by omega, Nat.zero_le _⟩
  case round =>
    clear hL0 hres
    rename World => wo
    obtain ⟨m, kids, i', nv', q', ka, kc, rfl, hR, hL, hm, hmn, hres, hM, hii, hlen, hkl⟩ := hrel
    have hpo := hR.pos
    have hqi := hR.hq
    have hti := hR.hi
    go_wp2_with fail
    refine (sees_any hR (ByteArray.mk #[125])).mono ?_
    rintro e wq ⟨rfl, hbq⟩
    have hRq := hR.stays hbq
    have mq := Mv.of_below (rb := rb) (nv := nv') (q := q') hbq
    have hMq := hM.trans mq
    have hLq := hL.mv mq
    by_cases hsee : wS T i' = (ByteArray.mk #[125])
    · have hdec : decide (wS T i' = (ByteArray.mk #[125])) = true := decide_eq_true hsee
      rw [hdec]
      replace hres := hres.out; rw [blockLG_end hsee, PR.then_ok] at hres; change Hid _ at hres
      clear hdec hsee
      go_wp2_with fail
      refine (skip_any hRq (ByteArray.mk #[125]) (by decide)).mono ?_
      rcases hs21 : skipF T (ByteArray.mk #[125]) i' (qnds q') with ⟨u21, i21, ns21⟩ | ib
      rotate_left
      · rintro e wb ⟨rfl, hle, hB⟩
        replace hres := hres.out; rw [hs21, PR.then_bad] at hres; change Hid _ at hres
        go_wp2
        rw [hres.out]
        exact ⟨rfl, rfl, hle, (hMq.below h).trans hB⟩
      rintro e w21 ⟨rfl, hR21, rfl, m21⟩
      replace hres := hres.out; rw [hs21, PR.then_ok] at hres; change Hid _ at hres
      obtain ⟨fa21, fb21⟩ := skipF_ok hs21
      have hM21 := hMq.trans m21
      clear hs21
      have hLs := hLq.mv m21
      go_wp2_with fail
      refine (leave_any hR21).mono ?_
      rintro e w22 ⟨rfl, hR22, m22⟩
      have hM22 := hM21.trans m22
      have hLt := hLs.mv m22
      go_wp2_with fail
      refine (put_loc hR22 ⟨27, empS, 0, kids⟩ rfl hLt (by omega)).mono ?_
      rintro e w23 ⟨rfl, nv23, q23, hR23, hq23, hMx23, fb23⟩
      have hM23 := hMx23 _ _ _ hM22 (Nat.le_refl _)
      go_wp2
      rw [hres.out]
      go_ret
      exact ⟨rfl, nv23, q23, hR23, hq23, hM23, by omega, by omega⟩
    · have hdec : decide (wS T i' = (ByteArray.mk #[125])) = false := decide_eq_false hsee
      rw [hdec]
      replace hres := hres.out; rw [blockLG_more hsee] at hres; change Hid _ at hres
      clear hdec hsee
      go_wp2_with fail
      refine (hSt m hmn wq i' (d + 1) nv' q' hRq hm).mono ?_
      rcases hs : stmtG T (fns T m) (d + 1) i' (qnds q') with ⟨k, i6, ns6⟩ | ib
      · rintro e w6 ⟨rfl, nv6, q6, hR6, rfl, m6, fa6, fb6⟩
        have fc6 := hR6.hi
        obtain ⟨m1, rfl⟩ : ∃ m1, m = m1 + 1 := ⟨m - 1, by omega⟩
        replace hres := hres.out; rw [hs] at hres; rw [PR.then_ok, fns_blockL] at hres; change Hid _ at hres
        have hM6 := hMq.trans m6
        have hL6 := hLq.mv m6
        clear hs
        go_wp2_with (at_builtin; refine wpList_append_lies _ rfl _ _ 31 rfl base 3 iI _ 1 8 Try.underlying31 hII hzi0 hzi1 hzi2 rfl (by decide) _ kids.length (icells kids) rfl (hL6.row.alloc _) ⟨w6.heap.size, 0, none⟩ 1 1 [.int .i64 (k : Int)] rfl rfl (World.news_of_block (heap_alloc_new w6 _)) (by simp [Value.oneCell']) (by simp) (by unfold maxLen; omega) (by omega) (by simp; have := hR6.base_le; omega) (w6.heap.size + 1) (by simp) ?_; intro g7 cap7 w7 hown7 hgrow7 hat7 hlt7)
        obtain ⟨hR7, hL7, hMx7⟩ := Loc.grow hR6 hL6 (by have := hM6.size; omega) hown7 hgrow7 hat7
        have hM7 := hMx7 _ _ _ hM6 (Nat.le_refl _)
        clear hown7 hgrow7 hat7 hlt7 hMx7
        have hp := hR7.pos
        go_roundw
        case rel => exact ⟨m1, kids ++ [(k : Int)], i6, nv6, q6, some ⟨g7, 0, none⟩, cap7, by simp, hR7, by simpa using hL7, by omega, by omega, hres, hM7, by omega, by omega, by simp; omega⟩
        case measure => rw [hpo, hp]; omega
      · rintro e w6 ⟨rfl, hle, hB⟩
        replace hres := hres.out; rw [hs] at hres; rw [PR.then_bad, PR.then_bad] at hres; change Hid _ at hres
        go_wp2
        rw [hres.out]
        exact ⟨rfl, rfl, hle, (hMq.below h).trans hB⟩

end Go.Proofs.Ytkdlgglikhbnkac
