/- The specification's reader: signed expressions. -/
import Derived.Test.YtkdlgglikhbnkacSBad
namespace Go.Proofs.Ytkdlgglikhbnkac
open Go.ChangeShapes Go.WideShapes Go.ChangeAt Go.RowKit
set_option linter.unusedVariables false
set_option maxRecDepth 100000
attribute [local go_sem ↓] Go.wp_at_zero Go.wp_at_succ

def SSignedC (base rb : Nat) (T : List Tk) (tv pv : Value) (n : Nat) : Prop := ∀ (w : World) (i d : Nat) (nv : Value) (q : List Qn), Sd base rb T tv pv w i d nv q → T.length - i ≤ n →
  Calls Try.prog 84 #[.pointer (some ⟨rb, 0, none⟩)] w (SpRet base rb T tv pv w nv q d i (signedG T (fns T n) d i (qnds q)))
def SExprC (base rb : Nat) (T : List Tk) (tv pv : Value) (n : Nat) : Prop := ∀ (w : World) (i d : Nat) (nv : Value) (q : List Qn), Sd base rb T tv pv w i d nv q → T.length - i ≤ n →
  Calls Try.prog 71 #[.pointer (some ⟨rb, 0, none⟩)] w (SpRet base rb T tv pv w nv q d i (exprG T (fns T n) d i (qnds q)))

theorem asked_kind {T : List Tk} (hT : Goods T) {i : Nat} {x : ByteArray} (hw : wS T i = x) (hx : askB x = true) : ¬ (tkAt T i).k = 1 := by
  intro h
  have hi := kind_lt h (by omega)
  rcases good_ask (hT i hi) (by rw [← hw] at hx; exact hx) with e | e <;> omega

set_option maxHeartbeats 4000000 in
theorem ssigned_step {base rb : Nat} {T : List Tk} {tv pv : Value} {n : Nat} (hT : Goods T) (ihS : ∀ m, m + 1 = n → SSignedC base rb T tv pv m) (ihE : ∀ m, m + 1 = n → SExprC base rb T tv pv m) : SSignedC base rb T tv pv n := by
  intro w i d nv q h hn
  have hT6 : T.length ≤ 6000 := by obtain ⟨_, _, _, h, _⟩ := h.words; exact h
  have hqi := h.hq
  have hd30 := h.hd
  by_cases hs1 : wS T i = (ByteArray.mk #[45])
  · have hi : i < T.length := wS_lt hs1 (by decide)
    have hk1 := asked_kind hT hs1 ask_sub
    have hr : signedG T (fns T n) d i (qnds q) = if d = 30 then .bad (i + 1) else ((fns T n).signed (d + 1) (i + 1) (qnds q)).then fun k i ns => putF ⟨2, empS, 0, [(k : Int)]⟩ i ns := by rw [signedG, if_neg hk1, if_pos hs1]
    have hB1 : isB T i (ByteArray.mk #[45]) = true := by rw [isB_text hT i ask_sub, decide_eq_true hs1]
    change Hid _ at hr
    clear hk1 hs1
    have ht := stake_any h (ByteArray.mk #[45])
    rw [hB1, if_pos rfl] at ht
    clear hB1
    go_enter Try.func84, Try.ntmps84
    go_wp2_with fail
    refine ht.mono ?_
    clear ht
    rintro e w1 ⟨rfl, h1, m1⟩
    by_cases hd : d = 30
    · subst hd
      replace hr := hr.out
      rw [if_pos rfl] at hr
      change Hid _ at hr
      go_wp2_with fail
      refine (sdown_deep h1).mono ?_
      rintro e w2 ⟨rfl, h2, f2⟩
      go_wp2
      rw [hr.out]
      go_ret
      exact ⟨0, rfl, h2, m1.gz.fz f2⟩
    · obtain ⟨m, rfl⟩ : ∃ m, m + 1 = n := ⟨n - 1, by omega⟩
      replace hr := hr.out
      rw [if_neg hd] at hr
      have hr2 : Hid (signedG T (fns T (m + 1)) d i (qnds q) = (signedG T (fns T m) (d + 1) (i + 1) (qnds q)).then fun k i ns => putF ⟨2, empS, 0, [(k : Int)]⟩ i ns) := hr
      clear hr
      go_wp2_with fail
      refine (sdown_any h1 hd).mono ?_
      rintro e w2 ⟨rfl, h2, m2⟩
      have hm2 := m1.trans m2
      go_wp2_with fail
      refine (ihS m rfl w2 (i + 1) (d + 1) nv q h2 (by omega)).mono ?_
      rcases hsg : signedG T (fns T m) (d + 1) (i + 1) (qnds q) with ⟨k, i', ns'⟩ | i'
      · rintro e w3 ⟨rfl, nv', q', hR, rfl, hM, hle, hlen⟩
        replace hr2 := hr2.out; rw [hsg] at hr2; change Hid _ at hr2
        have hm3 := hm2.trans hM
        have hi' := hR.hi
        have c2 : w3.cell? ⟨rb, 2, none⟩ = some (.int .i64 ((d : Int) + 1)) := hR.row.cell (by omega)
        have z2 := hR.row.frozen 2
        have hw : IntKind.i64.wrap ((d : Int) + 1 - 1) = (d : Int) := by rw [IntKind.wrap_i64]; omega
        obtain ⟨h4, m4⟩ := hR.up
        have hz4 : (w3.setCell ⟨rb, 2, none⟩ (.int .i64 (d : Int))).heap.size = w3.heap.size := by simp [World.setCell]
        change Hid _ at hz4
        have hm4 := hm3.trans m4
        go_wp2_with fail
        try rw [show ((d : Int) + 1 - 1) = (d : Int) from by omega]
        generalize w3.setCell ⟨rb, 2, none⟩ (.int .i64 (d : Int)) = w4 at *
        have hsn := snode_fresh h4 ⟨2, empS, 0, [(k : Int)]⟩ (by omega) (by simp)
        rw [hz4.out] at hsn
        refine hsn.mono ?_
        clear hsn
        rintro e w5 ⟨rfl, nv7, q7, hR7, hq7, hM7, hl7⟩
        go_wp2
        rw [hr2.out]
        go_ret
        exact ⟨rfl, nv7, q7, hR7, hq7, hm4.trans hM7, by omega, by omega⟩
      · rintro e w3 ⟨k, rfl, h3, g3⟩
        replace hr2 := hr2.out; rw [hsg] at hr2; change Hid _ at hr2
        have g3' := hm2.thenGz g3
        obtain ⟨d3, nv3, pv3, hr3⟩ := h3.row
        have c2 : w3.cell? ⟨rb, 2, none⟩ = some (.int .i64 d3) := hr3.cell (by omega)
        have z2 := hr3.frozen 2
        have h4 := fun x => h3.up x
        go_wp2_with fail
        refine (snode_bad ((h4 _).stays ((Below.refl _ _).alloc (Nat.le_refl _) _)) _ _ _ _ _ _).mono ?_
        rintro e w5 ⟨rfl, h5, f5⟩
        go_wp2
        rw [hr2.out]
        go_ret
        exact ⟨0, rfl, h5, ((g3'.fz (Fz.set 2 _)).fz (Fz.of_below ((Below.refl _ _).alloc (Nat.le_refl _) _))).fz f5⟩
  · have hB1 : isB T i (ByteArray.mk #[45]) = false := by rw [isB_text hT i ask_sub, decide_eq_false hs1]
    have ht := stake_any h (ByteArray.mk #[45])
    rw [hB1, if_neg (by decide)] at ht
    clear hB1
    change Hid _ at hs1
    by_cases hs2 : wS T i = (ByteArray.mk #[40])
    · have hi : i < T.length := wS_lt hs2 (by decide)
      have hk1 := asked_kind hT hs2 ask_open
      obtain ⟨m, rfl⟩ : ∃ m, m + 1 = n := ⟨n - 1, by omega⟩
      have hr : Hid (signedG T (fns T (m + 1)) d i (qnds q) = (exprG T (fns T m) d (i + 1) (qnds q)).then fun k i ns => (skipF T (ByteArray.mk #[41]) i ns).then fun _ i ns => .ok k i ns) := by
        show _ = _
        rw [signedG, if_neg hk1, if_neg hs1.out, if_pos hs2]
        rfl
      have hB2 : isB T i (ByteArray.mk #[40]) = true := by rw [isB_text hT i ask_open, decide_eq_true hs2]
      clear hk1 hs2
      go_enter Try.func84, Try.ntmps84
      go_wp2_with fail
      refine ht.mono ?_
      clear ht
      rintro e w1 ⟨rfl, h1, m1⟩
      have ht := stake_any h1 (ByteArray.mk #[40])
      rw [hB2, if_pos rfl] at ht
      clear hB2
      go_wp2_with fail
      refine ht.mono ?_
      clear ht
      rintro e w2 ⟨rfl, h2, m2⟩
      have hm2 := m1.trans m2
      go_wp2_with fail
      refine (ihE m rfl w2 (i + 1) d nv q h2 (by omega)).mono ?_
      rcases hsg : exprG T (fns T m) d (i + 1) (qnds q) with ⟨k, i', ns'⟩ | i'
      · rintro e w3 ⟨rfl, nv', q', hR, rfl, hM, hle, hlen⟩
        replace hr := hr.out; rw [hsg, PR.then_ok] at hr; change Hid _ at hr
        have hm3 := hm2.trans hM
        go_wp2_with fail
        refine (swant_any hR _).mono ?_
        rw [isB_text hT i' ask_shut]
        rintro e w4 ⟨rfl, m4, ⟨hb, h4⟩ | ⟨hb, h4⟩⟩
        · have hsk : skipF T (ByteArray.mk #[41]) i' (qnds q') = .ok () (i' + 1) (qnds q') := by rw [skipF, if_pos (of_decide_eq_true hb)]
          clear hb
          replace hr := hr.out; rw [hsk, PR.then_ok] at hr; change Hid _ at hr
          clear hsk
          go_wp2
          rw [hr.out]
          go_ret
          exact ⟨rfl, nv', q', h4, rfl, hm3.trans m4, by omega, by omega⟩
        · have hsk : skipF T (ByteArray.mk #[41]) i' (qnds q') = .bad i' := by rw [skipF, if_neg (of_decide_eq_false hb)]
          clear hb
          replace hr := hr.out; rw [hsk, PR.then_bad] at hr; change Hid _ at hr
          clear hsk
          go_wp2
          rw [hr.out]
          go_ret
          exact ⟨(k : Int), rfl, h4, (hm3.trans m4).gz⟩
      · rintro e w3 ⟨k, rfl, h3, g3⟩
        replace hr := hr.out; rw [hsg, PR.then_bad] at hr; change Hid _ at hr
        go_wp2_with fail
        refine (swant_bad h3 _).mono ?_
        rintro e w4 ⟨rfl, h4, f4⟩
        go_wp2
        rw [hr.out]
        go_ret
        exact ⟨k, rfl, h4, (hm2.thenGz g3).fz f4⟩
    · have hB2 : isB T i (ByteArray.mk #[40]) = false := by rw [isB_text hT i ask_open, decide_eq_false hs2]
      change Hid _ at hs2
      rcases htk : tkAt T i with ⟨tk, ts, tn, tp⟩
      have HT : Hid (tkAt T i = ⟨tk, ts, tn, tp⟩) := htk
      clear htk
      go_enter Try.func84, Try.ntmps84
      go_wp2_with fail
      refine ht.mono ?_
      clear ht
      rintro e w1 ⟨rfl, h1, m1⟩
      have ht := stake_any h1 (ByteArray.mk #[40])
      rw [hB2, if_neg (by decide)] at ht
      clear hB2
      go_wp2_with fail
      refine ht.mono ?_
      clear ht
      rintro e w2 ⟨rfl, h2, m2⟩
      have hm2 := m1.trans m2
      have ht := tok_any h2.wd
      rw [HT.out] at ht
      dsimp only at ht
      go_wp2_with fail
      refine ht.mono ?_
      clear ht
      rintro e w3 ⟨rfl, hb3⟩
      have bA : Below w3.heap.size w3 (w3.alloc (Obj.cells #[.int .i64 tk, .string ts, .int .i64 tn, .int .i64 tp] 59)) := (Below.refl _ _).alloc (Nat.le_refl _) _
      have b4 := hb3.trans (bA.mono hb3.size)
      have h4 := h2.stays b4
      have hm4 := hm2.trans (Mv.of_below (rb := rb) (nv := nv) (q := q) b4)
      have y0 : (w3.alloc (Obj.cells #[.int .i64 tk, .string ts, .int .i64 tn, .int .i64 tp] 59)).cell? ⟨w3.heap.size, 0, none⟩ = some (.int .i64 tk) := by simp [go_sem]
      have y1 : (w3.alloc (Obj.cells #[.int .i64 tk, .string ts, .int .i64 tn, .int .i64 tp] 59)).cell? ⟨w3.heap.size, 1, none⟩ = some (.string ts) := by simp [go_sem]
      have y2 : (w3.alloc (Obj.cells #[.int .i64 tk, .string ts, .int .i64 tn, .int .i64 tp] 59)).cell? ⟨w3.heap.size, 2, none⟩ = some (.int .i64 tn) := by simp [go_sem]
      have hrb : w3.heap.size ≠ rb := by have := h2.row.lt; have := hb3.size; omega
      have hnv : nv.ownBlock ≠ some w3.heap.size := fun e => by have := (own_lt h2.own.row e).2; have := hb3.size; omega
      have hlt : w3.heap.size < (w3.alloc (Obj.cells #[.int .i64 tk, .string ts, .int .i64 tn, .int .i64 tp] 59)).heap.size := by simp
      clear bA b4
      by_cases hk1 : tk = 1
      · subst hk1
        have hr := signedG_num (R := fns T n) (d := d) (ns := qnds q) HT.out
        change Hid _ at hr
        go_wp2_with fail
        generalize (w3.alloc (Obj.cells #[.int .i64 1, .string ts, .int .i64 tn, .int .i64 tp] 59)) = w4 at *
        have hkd := skind_any h4 1 (by decide)
        rw [HT.out] at hkd
        refine hkd.mono ?_
        clear hkd
        rintro e w6 ⟨m6, ⟨-, rfl, h6⟩ | ⟨hk, -⟩⟩
        · have x2 := cell_same (m6.block _ hlt hrb hnv) y2
          clear y0 y1 y2
          go_wp2_with fail
          refine (snode_none h6 ⟨0, empS, tn, []⟩ rfl (by omega)).mono ?_
          rintro e w7 ⟨rfl, nv', q', hR, hq', hM, hl⟩
          go_wp2
          rw [hr.out]
          go_ret
          exact ⟨rfl, nv', q', hR, hq', (hm4.trans m6).trans hM, by omega, by omega⟩
        · exact absurd rfl hk
      · have hr := signedG_else (R := fns T n) (d := d) (ns := qnds q) HT.out hk1 (by have := hs1.out; rw [wS, HT.out] at this; exact this) (by have := hs2.out; rw [wS, HT.out] at this; exact this)
        change Hid _ at hr
        by_cases hk2 : tk = 2
        · subst hk2
          have htf : takeF T 2 i (qnds q) = .ok ⟨2, ts, tn, tp⟩ (i + 1) (qnds q) := by rw [takeF, HT.out, if_pos rfl]
          replace hr := hr.out; rw [htf, PR.then_ok] at hr; change Hid _ at hr
          clear htf
          go_wp2_with fail
          generalize (w3.alloc (Obj.cells #[.int .i64 2, .string ts, .int .i64 tn, .int .i64 tp] 59)) = w4 at *
          have hkd := skind_any h4 2 (by decide)
          rw [HT.out] at hkd
          refine hkd.mono ?_
          clear hkd
          rintro e w6 ⟨m6, ⟨-, rfl, h6⟩ | ⟨hk, -⟩⟩
          · have x1 := cell_same (m6.block _ hlt hrb hnv) y1
            clear y0 y1 y2
            go_wp2_with fail
            refine (snode_none h6 ⟨1, ts, 0, []⟩ rfl (by omega)).mono ?_
            rintro e w7 ⟨rfl, nv', q', hR, hq', hM, hl⟩
            go_wp2
            rw [hr.out]
            go_ret
            exact ⟨rfl, nv', q', hR, hq', (hm4.trans m6).trans hM, by omega, by omega⟩
          · exact absurd rfl hk
        · have htf : takeF T 2 i (qnds q) = .bad i := by rw [takeF, HT.out, if_neg hk2]
          replace hr := hr.out; rw [htf, PR.then_bad] at hr; change Hid _ at hr
          clear htf
          have c5 : (w3.alloc (Obj.cells #[.int .i64 tk, .string ts, .int .i64 tn, .int .i64 tp] 59)).cell? ⟨rb, 5, none⟩ = some (.bool false) := h4.row.cell (by omega)
          have z5 := h4.row.frozen 5
          have h5 := h4.give
          have g5 := hm4.gz.fz (Fz.set (rb := rb) (w := (w3.alloc (Obj.cells #[.int .i64 tk, .string ts, .int .i64 tn, .int .i64 tp] 59))) 5 (.bool true))
          go_wp2
          rw [hr.out]
          go_ret
          exact ⟨0, rfl, h5, g5⟩

end Go.Proofs.Ytkdlgglikhbnkac
