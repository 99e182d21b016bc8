/- The specification's reader: products. Written by gensprod.py. -/
import Derived.Test.YtkdlgglikhbnkacSExpr1
import Derived.Test.YtkdlgglikhbnkacPExpr2
namespace Go.Proofs.Ytkdlgglikhbnkac
open Go.ChangeShapes Go.WideShapes Go.ChangeAt Go.RowKit
set_option linter.unusedVariables false
set_option maxRecDepth 100000
attribute [local go_sem ↓] Go.wp_at_zero Go.wp_at_succ

/-- How far a reader has to go: nothing in the bad mode. -/
def sFar (w : World) (rb L : Nat) : Nat := match w.cell? ⟨rb, 5, none⟩, w.cell? ⟨rb, 1, none⟩ with
  | some (.bool false), some v => L - (intOf v).toNat + 1
  | _, _ => 0
theorem Sd.far {base rb : Nat} {T : List Tk} {tv pv : Value} {w : World} {i d : Nat} {nv : Value} {q : List Qn} (h : Sd base rb T tv pv w i d nv q) : sFar w rb T.length = T.length - i + 1 := by
  have c5 : w.cell? ⟨rb, 5, none⟩ = some (.bool false) := h.row.cell (by omega)
  have c1 : w.cell? ⟨rb, 1, none⟩ = some (.int .i64 (i : Int)) := h.row.cell (by omega)
  rw [sFar, c5, c1]
  simp [intOf]
theorem Bd.far {base rb : Nat} {T : List Tk} {tv pv : Value} {w : World} {i : Nat} (h : Bd base rb T tv pv w i) : sFar w rb T.length = 0 := by
  obtain ⟨_, _, _, hr⟩ := h.row
  have c5 : w.cell? ⟨rb, 5, none⟩ = some (.bool true) := hr.cell (by omega)
  rw [sFar, c5]

def SProductC (base rb : Nat) (T : List Tk) (tv pv : Value) (n : Nat) : Prop := ∀ (w : World) (i d : Nat) (nv : Value) (q : List Qn), Sd base rb T tv pv w i d nv q → T.length - i ≤ n →
  Calls Try.prog 81 #[.pointer (some ⟨rb, 0, none⟩)] w (SpRet base rb T tv pv w nv q d i (productG T (fns T n) d i (qnds q)))

set_option maxHeartbeats 4000000 in
theorem sproduct_step {base rb : Nat} {T : List Tk} {tv pv : Value} {n : Nat} (hT : Goods T) (hS : ∀ m, m ≤ n → SSignedC base rb T tv pv m) : SProductC base rb T tv pv n := by
  intro w i d nv q h hn
  have hT6 : T.length ≤ 6000 := by obtain ⟨_, _, _, h, _⟩ := h.words; exact h
  have hdef : productG T (fns T n) d i (qnds q) = (signedG T (fns T n) d i (qnds q)).then (prodLG T (fns T n) d) := rfl
  change Hid _ at hdef
  go_enter Try.func81, Try.ntmps81
  go_wp2_with fail
  refine (hS n (Nat.le_refl _) w i d nv q h hn).mono ?_
  intro e w1 he
  have hst : ∃ kk : Int, e = .returned (.int .i64 kk) ∧ ((∃ (m k i' : Nat) (nv' : Value) (q' : List Qn), kk = (k : Int) ∧ Sd base rb T tv pv w1 i' d nv' q' ∧ T.length - i' ≤ m ∧ m ≤ n ∧ Hid (productG T (fns T n) d i (qnds q) = prodLG T (fns T m) d k i' (qnds q')) ∧ Mv rb w nv q w1 nv' q' ∧ i ≤ i' ∧ q'.length + i ≤ q.length + i') ∨ (∃ i', Bd base rb T tv pv w1 i' ∧ Gz rb w nv w1 ∧ Hid (productG T (fns T n) d i (qnds q) = .bad i'))) := by
    rcases hsg : signedG T (fns T n) d i (qnds q) with ⟨k, i1, ns1⟩ | i1
    · rw [hsg] at he
      obtain ⟨rfl, nv1, q1, hR1, rfl, hM1, hle1, hlen1⟩ := he
      exact ⟨_, rfl, .inl ⟨n, k, i1, nv1, q1, rfl, hR1, by omega, Nat.le_refl _, by show _ = _; rw [hdef.out, hsg]; rfl, hM1, hle1, hlen1⟩⟩
    · rw [hsg] at he
      obtain ⟨k, rfl, h1, g1⟩ := he
      exact ⟨_, rfl, .inr ⟨i1, h1, g1, by show _ = _; rw [hdef.out, hsg]; rfl⟩⟩
  clear he hdef
  obtain ⟨kk, rfl, hst⟩ := hst
  change Hid _ at hst
  go_wp2_with fail
  go_loopw [3] (fun t3 wr => ∃ kk : Int, t3 = .int .i64 kk ∧ Hid ((∃ (m k i' : Nat) (nv' : Value) (q' : List Qn), kk = (k : Int) ∧ Sd base rb T tv pv wr i' d nv' q' ∧ T.length - i' ≤ m ∧ m ≤ n ∧ Hid (productG T (fns T n) d i (qnds q) = prodLG T (fns T m) d k i' (qnds q')) ∧ Mv rb w nv q wr nv' q' ∧ i ≤ i' ∧ q'.length + i ≤ q.length + i') ∨ (∃ i', Bd base rb T tv pv wr i' ∧ Gz rb w nv wr ∧ Hid (productG T (fns T n) d i (qnds q) = .bad i')))) (fun _ wr => sFar wr rb T.length)
  case atStart => exact ⟨kk, rfl, hst⟩
  case round =>
    rename World => wo
    clear hst
    obtain ⟨kk, rfl, hst⟩ := hrel
    rcases hst.out with ⟨m, k, i', nv', q', rfl, hR, hm, hmn, heq, hM, hii, hlen⟩ | ⟨i', hR, gR, heq⟩
    · clear hst
      have hpo := hR.far
      have hqi := hR.hq
      change Hid _ at hpo
      by_cases hs0 : wS T i' = (ByteArray.mk #[42])
      · have B0 : isB T i' (ByteArray.mk #[42]) = true := by rw [isB_text hT i' ask_mul, decide_eq_true hs0]
        have B1 : isB T i' (ByteArray.mk #[47]) = false := by rw [isB_text hT i' ask_div, hs0]; decide
        have B2 : isB T i' (ByteArray.mk #[37]) = false := by rw [isB_text hT i' ask_rem, hs0]; decide
        have hkd : prodKind (wS T i') = some 5 := by rw [hs0]; decide +kernel
        have hlt : i' < T.length := wS_lt hs0 (by decide)
        clear hs0
        obtain ⟨m1, rfl⟩ : ∃ m1, m = m1 + 1 := ⟨m - 1, by omega⟩
        have hres := heq.out
        rw [prodLG_some hkd] at hres
        change Hid _ at hres
        clear hkd
        have ht := is_any hR.wd (ByteArray.mk #[47])
        rw [B1] at ht
        go_wp2_with fail
        refine ht.mono ?_
        clear ht
        rintro e wi0 ⟨rfl, bi0⟩
        have hi0 := hR.stays bi0
        have mi0 := hM.trans (Mv.of_below (rb := rb) (nv := nv') (q := q') bi0)
        have ht := is_any hi0.wd (ByteArray.mk #[37])
        rw [B2] at ht
        go_wp2_with fail
        refine ht.mono ?_
        clear ht
        rintro e wi1 ⟨rfl, bi1⟩
        have hi1 := hi0.stays bi1
        have mi1 := mi0.trans (Mv.of_below (rb := rb) (nv := nv') (q := q') bi1)
        have ht := stake_any hi1 (ByteArray.mk #[42])
        rw [B0, if_pos rfl] at ht
        go_wp2_with fail
        refine ht.mono ?_
        clear ht
        rintro e wt0 ⟨rfl, ht0, mt0⟩
        replace mt0 := mi1.trans mt0
        go_wp2_with fail
        refine (hS (m1 + 1) hmn _ (i' + 1) d nv' q' ht0 (by omega)).mono ?_
        rcases hsg : signedG T (fns T (m1 + 1)) d (i' + 1) (qnds q') with ⟨b, i5, ns5⟩ | i5
        · rintro e w5 ⟨rfl, nv5, q5, hR5, rfl, hM5, hle5, hlen5⟩
          have hi5 := hR5.hi
          replace hres := hres.out
          rw [hsg, PR.then_ok] at hres
          change Hid _ at hres
          have hM5' := mt0.trans hM5
          go_wp2_with fail
          refine (snode_fresh hR5 ⟨5, empS, 0, [(k : Int), (b : Int)]⟩ (by omega) (by simp)).mono ?_
          rintro e w6 ⟨rfl, nv6, q6, hR6, hq6, hM6, hl6⟩
          have hp6 := hR6.far
          have hres2 : Hid (productG T (fns T n) d i (qnds q) = prodLG T (fns T m1) d (qnds q5).length i5 (qnds q6)) := by show _ = _; rw [hq6]; exact hres.out
          clear hres hq6
          change Hid _ at hp6
          go_wp2
          go_roundw
          case rel => exact ⟨_, rfl, .inl ⟨m1, (qnds q5).length, i5, nv6, q6, rfl, hR6, by omega, by omega, hres2, hM5'.trans hM6, by omega, by omega⟩⟩
          case measure => rw [hpo.out, hp6.out]; omega
        · rintro e w5 ⟨kb, rfl, h5, g5⟩
          replace hres := hres.out
          rw [hsg, PR.then_bad] at hres
          change Hid _ at hres
          have g5' := mt0.thenGz g5
          have h6 := h5.stays ((Below.refl _ _).alloc (Nat.le_refl _) (Obj.cells #[.int .i64 (k : Int), .int .i64 kb] 3))
          have g6 := g5'.fz (Fz.of_below ((Below.refl _ _).alloc (Nat.le_refl _) (Obj.cells #[.int .i64 (k : Int), .int .i64 kb] 3)))
          go_wp2_with fail
          refine (snode_bad h6 _ _ _ _ _ _).mono ?_
          rintro e w7 ⟨rfl, h7, f7⟩
          have hp7 := h7.far
          change Hid _ at hp7
          go_wp2
          go_roundw
          case rel => exact ⟨0, rfl, .inr ⟨i5, h7, g6.fz f7, hres⟩⟩
          case measure => rw [hpo.out, hp7.out]; omega
      · skip
        by_cases hs1 : wS T i' = (ByteArray.mk #[47])
        · have B0 : isB T i' (ByteArray.mk #[42]) = false := by rw [isB_text hT i' ask_mul, decide_eq_false hs0]
          have B1 : isB T i' (ByteArray.mk #[47]) = true := by rw [isB_text hT i' ask_div, decide_eq_true hs1]
          have B2 : isB T i' (ByteArray.mk #[37]) = false := by rw [isB_text hT i' ask_rem, hs1]; decide
          have hkd : prodKind (wS T i') = some 6 := by rw [hs1]; decide +kernel
          have hlt : i' < T.length := wS_lt hs1 (by decide)
          clear hs0
          clear hs1
          obtain ⟨m1, rfl⟩ : ∃ m1, m = m1 + 1 := ⟨m - 1, by omega⟩
          have hres := heq.out
          rw [prodLG_some hkd] at hres
          change Hid _ at hres
          clear hkd
          have ht := is_any hR.wd (ByteArray.mk #[47])
          rw [B1] at ht
          go_wp2_with fail
          refine ht.mono ?_
          clear ht
          rintro e wi0 ⟨rfl, bi0⟩
          have hi0 := hR.stays bi0
          have mi0 := hM.trans (Mv.of_below (rb := rb) (nv := nv') (q := q') bi0)
          have ht := is_any hi0.wd (ByteArray.mk #[37])
          rw [B2] at ht
          go_wp2_with fail
          refine ht.mono ?_
          clear ht
          rintro e wi1 ⟨rfl, bi1⟩
          have hi1 := hi0.stays bi1
          have mi1 := mi0.trans (Mv.of_below (rb := rb) (nv := nv') (q := q') bi1)
          have ht := stake_any hi1 (ByteArray.mk #[42])
          rw [B0, if_neg (by decide)] at ht
          go_wp2_with fail
          refine ht.mono ?_
          clear ht
          rintro e wt0 ⟨rfl, ht0, mt0⟩
          replace mt0 := mi1.trans mt0
          have ht := stake_any ht0 (ByteArray.mk #[47])
          rw [B1, if_pos rfl] at ht
          go_wp2_with fail
          refine ht.mono ?_
          clear ht
          rintro e wt1 ⟨rfl, ht1, mt1⟩
          replace mt1 := mt0.trans mt1
          go_wp2_with fail
          refine (hS (m1 + 1) hmn _ (i' + 1) d nv' q' ht1 (by omega)).mono ?_
          rcases hsg : signedG T (fns T (m1 + 1)) d (i' + 1) (qnds q') with ⟨b, i5, ns5⟩ | i5
          · rintro e w5 ⟨rfl, nv5, q5, hR5, rfl, hM5, hle5, hlen5⟩
            have hi5 := hR5.hi
            replace hres := hres.out
            rw [hsg, PR.then_ok] at hres
            change Hid _ at hres
            have hM5' := mt1.trans hM5
            go_wp2_with fail
            refine (snode_fresh hR5 ⟨6, empS, 0, [(k : Int), (b : Int)]⟩ (by omega) (by simp)).mono ?_
            rintro e w6 ⟨rfl, nv6, q6, hR6, hq6, hM6, hl6⟩
            have hp6 := hR6.far
            have hres2 : Hid (productG T (fns T n) d i (qnds q) = prodLG T (fns T m1) d (qnds q5).length i5 (qnds q6)) := by show _ = _; rw [hq6]; exact hres.out
            clear hres hq6
            change Hid _ at hp6
            go_wp2
            go_roundw
            case rel => exact ⟨_, rfl, .inl ⟨m1, (qnds q5).length, i5, nv6, q6, rfl, hR6, by omega, by omega, hres2, hM5'.trans hM6, by omega, by omega⟩⟩
            case measure => rw [hpo.out, hp6.out]; omega
          · rintro e w5 ⟨kb, rfl, h5, g5⟩
            replace hres := hres.out
            rw [hsg, PR.then_bad] at hres
            change Hid _ at hres
            have g5' := mt1.thenGz g5
            have h6 := h5.stays ((Below.refl _ _).alloc (Nat.le_refl _) (Obj.cells #[.int .i64 (k : Int), .int .i64 kb] 3))
            have g6 := g5'.fz (Fz.of_below ((Below.refl _ _).alloc (Nat.le_refl _) (Obj.cells #[.int .i64 (k : Int), .int .i64 kb] 3)))
            go_wp2_with fail
            refine (snode_bad h6 _ _ _ _ _ _).mono ?_
            rintro e w7 ⟨rfl, h7, f7⟩
            have hp7 := h7.far
            change Hid _ at hp7
            go_wp2
            go_roundw
            case rel => exact ⟨0, rfl, .inr ⟨i5, h7, g6.fz f7, hres⟩⟩
            case measure => rw [hpo.out, hp7.out]; omega
        · skip
          by_cases hs2 : wS T i' = (ByteArray.mk #[37])
          · have B0 : isB T i' (ByteArray.mk #[42]) = false := by rw [isB_text hT i' ask_mul, decide_eq_false hs0]
            have B1 : isB T i' (ByteArray.mk #[47]) = false := by rw [isB_text hT i' ask_div, decide_eq_false hs1]
            have B2 : isB T i' (ByteArray.mk #[37]) = true := by rw [isB_text hT i' ask_rem, decide_eq_true hs2]
            have hkd : prodKind (wS T i') = some 7 := by rw [hs2]; decide +kernel
            have hlt : i' < T.length := wS_lt hs2 (by decide)
            clear hs0
            clear hs1
            clear hs2
            obtain ⟨m1, rfl⟩ : ∃ m1, m = m1 + 1 := ⟨m - 1, by omega⟩
            have hres := heq.out
            rw [prodLG_some hkd] at hres
            change Hid _ at hres
            clear hkd
            have ht := is_any hR.wd (ByteArray.mk #[47])
            rw [B1] at ht
            go_wp2_with fail
            refine ht.mono ?_
            clear ht
            rintro e wi0 ⟨rfl, bi0⟩
            have hi0 := hR.stays bi0
            have mi0 := hM.trans (Mv.of_below (rb := rb) (nv := nv') (q := q') bi0)
            have ht := is_any hi0.wd (ByteArray.mk #[37])
            rw [B2] at ht
            go_wp2_with fail
            refine ht.mono ?_
            clear ht
            rintro e wi1 ⟨rfl, bi1⟩
            have hi1 := hi0.stays bi1
            have mi1 := mi0.trans (Mv.of_below (rb := rb) (nv := nv') (q := q') bi1)
            have ht := stake_any hi1 (ByteArray.mk #[42])
            rw [B0, if_neg (by decide)] at ht
            go_wp2_with fail
            refine ht.mono ?_
            clear ht
            rintro e wt0 ⟨rfl, ht0, mt0⟩
            replace mt0 := mi1.trans mt0
            have ht := stake_any ht0 (ByteArray.mk #[47])
            rw [B1, if_neg (by decide)] at ht
            go_wp2_with fail
            refine ht.mono ?_
            clear ht
            rintro e wt1 ⟨rfl, ht1, mt1⟩
            replace mt1 := mt0.trans mt1
            have ht := stake_any ht1 (ByteArray.mk #[37])
            rw [B2, if_pos rfl] at ht
            go_wp2_with fail
            refine ht.mono ?_
            clear ht
            rintro e wt2 ⟨rfl, ht2, mt2⟩
            replace mt2 := mt1.trans mt2
            go_wp2_with fail
            refine (hS (m1 + 1) hmn _ (i' + 1) d nv' q' ht2 (by omega)).mono ?_
            rcases hsg : signedG T (fns T (m1 + 1)) d (i' + 1) (qnds q') with ⟨b, i5, ns5⟩ | i5
            · rintro e w5 ⟨rfl, nv5, q5, hR5, rfl, hM5, hle5, hlen5⟩
              have hi5 := hR5.hi
              replace hres := hres.out
              rw [hsg, PR.then_ok] at hres
              change Hid _ at hres
              have hM5' := mt2.trans hM5
              go_wp2_with fail
              refine (snode_fresh hR5 ⟨7, empS, 0, [(k : Int), (b : Int)]⟩ (by omega) (by simp)).mono ?_
              rintro e w6 ⟨rfl, nv6, q6, hR6, hq6, hM6, hl6⟩
              have hp6 := hR6.far
              have hres2 : Hid (productG T (fns T n) d i (qnds q) = prodLG T (fns T m1) d (qnds q5).length i5 (qnds q6)) := by show _ = _; rw [hq6]; exact hres.out
              clear hres hq6
              change Hid _ at hp6
              go_wp2
              go_roundw
              case rel => exact ⟨_, rfl, .inl ⟨m1, (qnds q5).length, i5, nv6, q6, rfl, hR6, by omega, by omega, hres2, hM5'.trans hM6, by omega, by omega⟩⟩
              case measure => rw [hpo.out, hp6.out]; omega
            · rintro e w5 ⟨kb, rfl, h5, g5⟩
              replace hres := hres.out
              rw [hsg, PR.then_bad] at hres
              change Hid _ at hres
              have g5' := mt2.thenGz g5
              have h6 := h5.stays ((Below.refl _ _).alloc (Nat.le_refl _) (Obj.cells #[.int .i64 (k : Int), .int .i64 kb] 3))
              have g6 := g5'.fz (Fz.of_below ((Below.refl _ _).alloc (Nat.le_refl _) (Obj.cells #[.int .i64 (k : Int), .int .i64 kb] 3)))
              go_wp2_with fail
              refine (snode_bad h6 _ _ _ _ _ _).mono ?_
              rintro e w7 ⟨rfl, h7, f7⟩
              have hp7 := h7.far
              change Hid _ at hp7
              go_wp2
              go_roundw
              case rel => exact ⟨0, rfl, .inr ⟨i5, h7, g6.fz f7, hres⟩⟩
              case measure => rw [hpo.out, hp7.out]; omega
          · skip
            have B0 : isB T i' (ByteArray.mk #[42]) = false := by rw [isB_text hT i' ask_mul, decide_eq_false hs0]
            have B1 : isB T i' (ByteArray.mk #[47]) = false := by rw [isB_text hT i' ask_div, decide_eq_false hs1]
            have B2 : isB T i' (ByteArray.mk #[37]) = false := by rw [isB_text hT i' ask_rem, decide_eq_false hs2]
            have hkd : prodKind (wS T i') = none := by rw [prodKind, if_neg hs0, if_neg hs1, if_neg hs2]
            clear hs0
            clear hs1
            clear hs2
            have hres := heq.out
            rw [prodLG_none hkd] at hres
            change Hid _ at hres
            clear hkd
            have ht := is_any hR.wd (ByteArray.mk #[47])
            rw [B1] at ht
            go_wp2_with fail
            refine ht.mono ?_
            clear ht
            rintro e wi0 ⟨rfl, bi0⟩
            have hi0 := hR.stays bi0
            have mi0 := hM.trans (Mv.of_below (rb := rb) (nv := nv') (q := q') bi0)
            have ht := is_any hi0.wd (ByteArray.mk #[37])
            rw [B2] at ht
            go_wp2_with fail
            refine ht.mono ?_
            clear ht
            rintro e wi1 ⟨rfl, bi1⟩
            have hi1 := hi0.stays bi1
            have mi1 := mi0.trans (Mv.of_below (rb := rb) (nv := nv') (q := q') bi1)
            have ht := stake_any hi1 (ByteArray.mk #[42])
            rw [B0, if_neg (by decide)] at ht
            go_wp2_with fail
            refine ht.mono ?_
            clear ht
            rintro e wt0 ⟨rfl, ht0, mt0⟩
            replace mt0 := mi1.trans mt0
            have ht := stake_any ht0 (ByteArray.mk #[47])
            rw [B1, if_neg (by decide)] at ht
            go_wp2_with fail
            refine ht.mono ?_
            clear ht
            rintro e wt1 ⟨rfl, ht1, mt1⟩
            replace mt1 := mt0.trans mt1
            have ht := stake_any ht1 (ByteArray.mk #[37])
            rw [B2, if_neg (by decide)] at ht
            go_wp2_with fail
            refine ht.mono ?_
            clear ht
            rintro e wt2 ⟨rfl, ht2, mt2⟩
            replace mt2 := mt1.trans mt2
            go_wp2
            rw [hres.out]
            go_ret
            exact ⟨rfl, nv', q', ht2, rfl, mt2, hii, hlen⟩
    · clear hst
      go_wp2_with fail
      refine (is_any hR.wd _).mono ?_
      rintro e wi0 ⟨rfl, bi0⟩
      have hi0 := hR.stays bi0
      have gi0 := gR.fz (Fz.of_below (rb := rb) bi0)
      rcases isB T i' (ByteArray.mk #[47]) <;>
      · go_wp2_with fail
        refine (is_any hi0.wd _).mono ?_
        rintro e wi1 ⟨rfl, bi1⟩
        have hi1 := hi0.stays bi1
        have gi1 := gi0.fz (Fz.of_below (rb := rb) bi1)
        rcases isB T i' (ByteArray.mk #[37]) <;>
        · go_wp2_with fail
          refine (stake_bad hi1 _).mono ?_
          rintro e wt0 ⟨rfl, ht0, ft0⟩
          have gt0 := gi1.fz ft0
          go_wp2_with fail
          refine (stake_bad ht0 _).mono ?_
          rintro e wt1 ⟨rfl, ht1, ft1⟩
          have gt1 := gt0.fz ft1
          go_wp2_with fail
          refine (stake_bad ht1 _).mono ?_
          rintro e wt2 ⟨rfl, ht2, ft2⟩
          have gt2 := gt1.fz ft2
          go_wp2
          rw [heq.out]
          go_ret
          exact ⟨kk, rfl, ht2, gt2⟩

def SSumC (base rb : Nat) (T : List Tk) (tv pv : Value) (n : Nat) : Prop := ∀ (w : World) (i d : Nat) (nv : Value) (q : List Qn), Sd base rb T tv pv w i d nv q → T.length - i ≤ n →
  Calls Try.prog 77 #[.pointer (some ⟨rb, 0, none⟩)] w (SpRet base rb T tv pv w nv q d i (sumG T (fns T n) d i (qnds q)))

set_option maxHeartbeats 4000000 in
theorem ssum_step {base rb : Nat} {T : List Tk} {tv pv : Value} {n : Nat} (hT : Goods T) (hS : ∀ m, m ≤ n → SProductC base rb T tv pv m) : SSumC base rb T tv pv n := by
  intro w i d nv q h hn
  have hT6 : T.length ≤ 6000 := by obtain ⟨_, _, _, h, _⟩ := h.words; exact h
  have hdef : sumG T (fns T n) d i (qnds q) = (productG T (fns T n) d i (qnds q)).then (sumLG T (fns T n) d) := rfl
  change Hid _ at hdef
  go_enter Try.func77, Try.ntmps77
  go_wp2_with fail
  refine (hS n (Nat.le_refl _) w i d nv q h hn).mono ?_
  intro e w1 he
  have hst : ∃ kk : Int, e = .returned (.int .i64 kk) ∧ ((∃ (m k i' : Nat) (nv' : Value) (q' : List Qn), kk = (k : Int) ∧ Sd base rb T tv pv w1 i' d nv' q' ∧ T.length - i' ≤ m ∧ m ≤ n ∧ Hid (sumG T (fns T n) d i (qnds q) = sumLG T (fns T m) d k i' (qnds q')) ∧ Mv rb w nv q w1 nv' q' ∧ i ≤ i' ∧ q'.length + i ≤ q.length + i') ∨ (∃ i', Bd base rb T tv pv w1 i' ∧ Gz rb w nv w1 ∧ Hid (sumG T (fns T n) d i (qnds q) = .bad i'))) := by
    rcases hsg : productG T (fns T n) d i (qnds q) with ⟨k, i1, ns1⟩ | i1
    · rw [hsg] at he
      obtain ⟨rfl, nv1, q1, hR1, rfl, hM1, hle1, hlen1⟩ := he
      exact ⟨_, rfl, .inl ⟨n, k, i1, nv1, q1, rfl, hR1, by omega, Nat.le_refl _, by show _ = _; rw [hdef.out, hsg]; rfl, hM1, hle1, hlen1⟩⟩
    · rw [hsg] at he
      obtain ⟨k, rfl, h1, g1⟩ := he
      exact ⟨_, rfl, .inr ⟨i1, h1, g1, by show _ = _; rw [hdef.out, hsg]; rfl⟩⟩
  clear he hdef
  obtain ⟨kk, rfl, hst⟩ := hst
  change Hid _ at hst
  go_wp2_with fail
  go_loopw [3] (fun t3 wr => ∃ kk : Int, t3 = .int .i64 kk ∧ Hid ((∃ (m k i' : Nat) (nv' : Value) (q' : List Qn), kk = (k : Int) ∧ Sd base rb T tv pv wr i' d nv' q' ∧ T.length - i' ≤ m ∧ m ≤ n ∧ Hid (sumG T (fns T n) d i (qnds q) = sumLG T (fns T m) d k i' (qnds q')) ∧ Mv rb w nv q wr nv' q' ∧ i ≤ i' ∧ q'.length + i ≤ q.length + i') ∨ (∃ i', Bd base rb T tv pv wr i' ∧ Gz rb w nv wr ∧ Hid (sumG T (fns T n) d i (qnds q) = .bad i')))) (fun _ wr => sFar wr rb T.length)
  case atStart => exact ⟨kk, rfl, hst⟩
  case round =>
    rename World => wo
    clear hst
    obtain ⟨kk, rfl, hst⟩ := hrel
    rcases hst.out with ⟨m, k, i', nv', q', rfl, hR, hm, hmn, heq, hM, hii, hlen⟩ | ⟨i', hR, gR, heq⟩
    · clear hst
      have hpo := hR.far
      have hqi := hR.hq
      change Hid _ at hpo
      by_cases hs0 : wS T i' = (ByteArray.mk #[43])
      · have B0 : isB T i' (ByteArray.mk #[43]) = true := by rw [isB_text hT i' ask_add, decide_eq_true hs0]
        have B1 : isB T i' (ByteArray.mk #[45]) = false := by rw [isB_text hT i' ask_sub, hs0]; decide
        have hkd : sumKind (wS T i') = some 3 := by rw [hs0]; decide +kernel
        have hlt : i' < T.length := wS_lt hs0 (by decide)
        clear hs0
        obtain ⟨m1, rfl⟩ : ∃ m1, m = m1 + 1 := ⟨m - 1, by omega⟩
        have hres := heq.out
        rw [sumLG_some hkd] at hres
        change Hid _ at hres
        clear hkd
        have ht := is_any hR.wd (ByteArray.mk #[45])
        rw [B1] at ht
        go_wp2_with fail
        refine ht.mono ?_
        clear ht
        rintro e wi0 ⟨rfl, bi0⟩
        have hi0 := hR.stays bi0
        have mi0 := hM.trans (Mv.of_below (rb := rb) (nv := nv') (q := q') bi0)
        have ht := stake_any hi0 (ByteArray.mk #[43])
        rw [B0, if_pos rfl] at ht
        go_wp2_with fail
        refine ht.mono ?_
        clear ht
        rintro e wt0 ⟨rfl, ht0, mt0⟩
        replace mt0 := mi0.trans mt0
        go_wp2_with fail
        refine (hS (m1 + 1) hmn _ (i' + 1) d nv' q' ht0 (by omega)).mono ?_
        rcases hsg : productG T (fns T (m1 + 1)) d (i' + 1) (qnds q') with ⟨b, i5, ns5⟩ | i5
        · rintro e w5 ⟨rfl, nv5, q5, hR5, rfl, hM5, hle5, hlen5⟩
          have hi5 := hR5.hi
          replace hres := hres.out
          rw [hsg, PR.then_ok] at hres
          change Hid _ at hres
          have hM5' := mt0.trans hM5
          go_wp2_with fail
          refine (snode_fresh hR5 ⟨3, empS, 0, [(k : Int), (b : Int)]⟩ (by omega) (by simp)).mono ?_
          rintro e w6 ⟨rfl, nv6, q6, hR6, hq6, hM6, hl6⟩
          have hp6 := hR6.far
          have hres2 : Hid (sumG T (fns T n) d i (qnds q) = sumLG T (fns T m1) d (qnds q5).length i5 (qnds q6)) := by show _ = _; rw [hq6]; exact hres.out
          clear hres hq6
          change Hid _ at hp6
          go_wp2
          go_roundw
          case rel => exact ⟨_, rfl, .inl ⟨m1, (qnds q5).length, i5, nv6, q6, rfl, hR6, by omega, by omega, hres2, hM5'.trans hM6, by omega, by omega⟩⟩
          case measure => rw [hpo.out, hp6.out]; omega
        · rintro e w5 ⟨kb, rfl, h5, g5⟩
          replace hres := hres.out
          rw [hsg, PR.then_bad] at hres
          change Hid _ at hres
          have g5' := mt0.thenGz g5
          have h6 := h5.stays ((Below.refl _ _).alloc (Nat.le_refl _) (Obj.cells #[.int .i64 (k : Int), .int .i64 kb] 3))
          have g6 := g5'.fz (Fz.of_below ((Below.refl _ _).alloc (Nat.le_refl _) (Obj.cells #[.int .i64 (k : Int), .int .i64 kb] 3)))
          go_wp2_with fail
          refine (snode_bad h6 _ _ _ _ _ _).mono ?_
          rintro e w7 ⟨rfl, h7, f7⟩
          have hp7 := h7.far
          change Hid _ at hp7
          go_wp2
          go_roundw
          case rel => exact ⟨0, rfl, .inr ⟨i5, h7, g6.fz f7, hres⟩⟩
          case measure => rw [hpo.out, hp7.out]; omega
      · skip
        by_cases hs1 : wS T i' = (ByteArray.mk #[45])
        · have B0 : isB T i' (ByteArray.mk #[43]) = false := by rw [isB_text hT i' ask_add, decide_eq_false hs0]
          have B1 : isB T i' (ByteArray.mk #[45]) = true := by rw [isB_text hT i' ask_sub, decide_eq_true hs1]
          have hkd : sumKind (wS T i') = some 4 := by rw [hs1]; decide +kernel
          have hlt : i' < T.length := wS_lt hs1 (by decide)
          clear hs0
          clear hs1
          obtain ⟨m1, rfl⟩ : ∃ m1, m = m1 + 1 := ⟨m - 1, by omega⟩
          have hres := heq.out
          rw [sumLG_some hkd] at hres
          change Hid _ at hres
          clear hkd
          have ht := is_any hR.wd (ByteArray.mk #[45])
          rw [B1] at ht
          go_wp2_with fail
          refine ht.mono ?_
          clear ht
          rintro e wi0 ⟨rfl, bi0⟩
          have hi0 := hR.stays bi0
          have mi0 := hM.trans (Mv.of_below (rb := rb) (nv := nv') (q := q') bi0)
          have ht := stake_any hi0 (ByteArray.mk #[43])
          rw [B0, if_neg (by decide)] at ht
          go_wp2_with fail
          refine ht.mono ?_
          clear ht
          rintro e wt0 ⟨rfl, ht0, mt0⟩
          replace mt0 := mi0.trans mt0
          have ht := stake_any ht0 (ByteArray.mk #[45])
          rw [B1, if_pos rfl] at ht
          go_wp2_with fail
          refine ht.mono ?_
          clear ht
          rintro e wt1 ⟨rfl, ht1, mt1⟩
          replace mt1 := mt0.trans mt1
          go_wp2_with fail
          refine (hS (m1 + 1) hmn _ (i' + 1) d nv' q' ht1 (by omega)).mono ?_
          rcases hsg : productG T (fns T (m1 + 1)) d (i' + 1) (qnds q') with ⟨b, i5, ns5⟩ | i5
          · rintro e w5 ⟨rfl, nv5, q5, hR5, rfl, hM5, hle5, hlen5⟩
            have hi5 := hR5.hi
            replace hres := hres.out
            rw [hsg, PR.then_ok] at hres
            change Hid _ at hres
            have hM5' := mt1.trans hM5
            go_wp2_with fail
            refine (snode_fresh hR5 ⟨4, empS, 0, [(k : Int), (b : Int)]⟩ (by omega) (by simp)).mono ?_
            rintro e w6 ⟨rfl, nv6, q6, hR6, hq6, hM6, hl6⟩
            have hp6 := hR6.far
            have hres2 : Hid (sumG T (fns T n) d i (qnds q) = sumLG T (fns T m1) d (qnds q5).length i5 (qnds q6)) := by show _ = _; rw [hq6]; exact hres.out
            clear hres hq6
            change Hid _ at hp6
            go_wp2
            go_roundw
            case rel => exact ⟨_, rfl, .inl ⟨m1, (qnds q5).length, i5, nv6, q6, rfl, hR6, by omega, by omega, hres2, hM5'.trans hM6, by omega, by omega⟩⟩
            case measure => rw [hpo.out, hp6.out]; omega
          · rintro e w5 ⟨kb, rfl, h5, g5⟩
            replace hres := hres.out
            rw [hsg, PR.then_bad] at hres
            change Hid _ at hres
            have g5' := mt1.thenGz g5
            have h6 := h5.stays ((Below.refl _ _).alloc (Nat.le_refl _) (Obj.cells #[.int .i64 (k : Int), .int .i64 kb] 3))
            have g6 := g5'.fz (Fz.of_below ((Below.refl _ _).alloc (Nat.le_refl _) (Obj.cells #[.int .i64 (k : Int), .int .i64 kb] 3)))
            go_wp2_with fail
            refine (snode_bad h6 _ _ _ _ _ _).mono ?_
            rintro e w7 ⟨rfl, h7, f7⟩
            have hp7 := h7.far
            change Hid _ at hp7
            go_wp2
            go_roundw
            case rel => exact ⟨0, rfl, .inr ⟨i5, h7, g6.fz f7, hres⟩⟩
            case measure => rw [hpo.out, hp7.out]; omega
        · skip
          have B0 : isB T i' (ByteArray.mk #[43]) = false := by rw [isB_text hT i' ask_add, decide_eq_false hs0]
          have B1 : isB T i' (ByteArray.mk #[45]) = false := by rw [isB_text hT i' ask_sub, decide_eq_false hs1]
          have hkd : sumKind (wS T i') = none := by rw [sumKind, if_neg hs0, if_neg hs1]
          clear hs0
          clear hs1
          have hres := heq.out
          rw [sumLG_none hkd] at hres
          change Hid _ at hres
          clear hkd
          have ht := is_any hR.wd (ByteArray.mk #[45])
          rw [B1] at ht
          go_wp2_with fail
          refine ht.mono ?_
          clear ht
          rintro e wi0 ⟨rfl, bi0⟩
          have hi0 := hR.stays bi0
          have mi0 := hM.trans (Mv.of_below (rb := rb) (nv := nv') (q := q') bi0)
          have ht := stake_any hi0 (ByteArray.mk #[43])
          rw [B0, if_neg (by decide)] at ht
          go_wp2_with fail
          refine ht.mono ?_
          clear ht
          rintro e wt0 ⟨rfl, ht0, mt0⟩
          replace mt0 := mi0.trans mt0
          have ht := stake_any ht0 (ByteArray.mk #[45])
          rw [B1, if_neg (by decide)] at ht
          go_wp2_with fail
          refine ht.mono ?_
          clear ht
          rintro e wt1 ⟨rfl, ht1, mt1⟩
          replace mt1 := mt0.trans mt1
          go_wp2
          rw [hres.out]
          go_ret
          exact ⟨rfl, nv', q', ht1, rfl, mt1, hii, hlen⟩
    · clear hst
      go_wp2_with fail
      refine (is_any hR.wd _).mono ?_
      rintro e wi0 ⟨rfl, bi0⟩
      have hi0 := hR.stays bi0
      have gi0 := gR.fz (Fz.of_below (rb := rb) bi0)
      rcases isB T i' (ByteArray.mk #[45]) <;>
      · go_wp2_with fail
        refine (stake_bad hi0 _).mono ?_
        rintro e wt0 ⟨rfl, ht0, ft0⟩
        have gt0 := gi0.fz ft0
        go_wp2_with fail
        refine (stake_bad ht0 _).mono ?_
        rintro e wt1 ⟨rfl, ht1, ft1⟩
        have gt1 := gt0.fz ft1
        go_wp2
        rw [heq.out]
        go_ret
        exact ⟨kk, rfl, ht1, gt1⟩

end Go.Proofs.Ytkdlgglikhbnkac
