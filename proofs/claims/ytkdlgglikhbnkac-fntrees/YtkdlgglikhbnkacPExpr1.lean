/- Expressions: signed ones. -/
import Derived.Test.YtkdlgglikhbnkacPExpr0
namespace Go.Proofs.Ytkdlgglikhbnkac
open Go.ChangeShapes Go.WideShapes Go.ChangeAt Go.RowKit
set_option linter.unusedVariables false
set_option maxRecDepth 100000
attribute [local go_sem ↓] Go.wp_at_zero Go.wp_at_succ

def SignedC (base rb : Nat) (T : List Tk) (wv : Value) (en n : Nat) : Prop := ∀ (w : World) (i d : Nat) (nv : Value) (q : List Qn), Rd base rb T wv en w i d nv q → T.length - i ≤ n →
  Calls Try.prog 85 #[.pointer (some ⟨rb, 0, none⟩)] w (NRet base rb T wv en w nv q d i (signedG T (fns T n) d i (qnds q)))
def ExprC (base rb : Nat) (T : List Tk) (wv : Value) (en n : Nat) : Prop := ∀ (w : World) (i d : Nat) (nv : Value) (q : List Qn), Rd base rb T wv en w i d nv q → T.length - i ≤ n →
  Calls Try.prog 75 #[.pointer (some ⟨rb, 0, none⟩)] w (NRet base rb T wv en w nv q d i (exprG T (fns T n) d i (qnds q)))

theorem text_ne_lit {x : ByteArray} {l : List UInt8} (h : ¬ x = ⟨l.toArray⟩) : (x.toList == l) = false := by
  have := text_beq x ⟨l.toArray⟩
  rw [decide_eq_false h, ByteArray.toList_eq ⟨l.toArray⟩] at this
  exact this
theorem signedG_num {T : List Tk} {R : Fns} {d i : Nat} {ns : List Nd} {ts : ByteArray} {tn tp : Int} (ht : tkAt T i = ⟨1, ts, tn, tp⟩) : signedG T R d i ns = putF ⟨0, empS, tn, []⟩ (i + 1) ns := by
  rw [signedG, ht, if_pos rfl]
theorem signedG_neg {T : List Tk} {R : Fns} {d i : Nat} {ns : List Nd} {tk tn tp : Int} (ht : tkAt T i = ⟨tk, (ByteArray.mk #[45]), tn, tp⟩) (hk : tk ≠ 1) : signedG T R d i ns = if d = 30 then .bad (i + 1) else (R.signed (d + 1) (i + 1) ns).then fun k i ns => putF ⟨2, empS, 0, [(k : Int)]⟩ i ns := by
  rw [signedG, wS, ht, if_neg hk, if_pos rfl]
theorem signedG_par {T : List Tk} {R : Fns} {d i : Nat} {ns : List Nd} {tk tn tp : Int} (ht : tkAt T i = ⟨tk, (ByteArray.mk #[40]), tn, tp⟩) (hk : tk ≠ 1) : signedG T R d i ns = (R.expr d (i + 1) ns).then fun k i ns => (skipF T (ByteArray.mk #[41]) i ns).then fun _ i ns => .ok k i ns := by
  rw [signedG, wS, ht, if_neg hk, if_neg (show ¬ (ByteArray.mk #[40]) = (ByteArray.mk #[45]) by decide), if_pos rfl]
theorem signedG_else {T : List Tk} {R : Fns} {d i : Nat} {ns : List Nd} {ts : ByteArray} {tk tn tp : Int} (ht : tkAt T i = ⟨tk, ts, tn, tp⟩) (hk : tk ≠ 1) (h1 : ¬ ts = (ByteArray.mk #[45])) (h2 : ¬ ts = (ByteArray.mk #[40])) : signedG T R d i ns = (takeF T 2 i ns).then fun t i ns => putF ⟨1, t.s, 0, []⟩ i ns := by
  rw [signedG, wS, ht, if_neg hk, if_neg h1, if_neg h2]

set_option maxHeartbeats 4000000 in
theorem signed_step {base rb : Nat} {T : List Tk} {wv : Value} {en n : Nat} (ihS : ∀ m, m + 1 = n → SignedC base rb T wv en m) (ihE : ∀ m, m + 1 = n → ExprC base rb T wv en m) : SignedC base rb T wv en n := by
  intro w i d nv q h hn
  have hT6 : T.length ≤ 6000 := by obtain ⟨_, _, _, h, _⟩ := h.words; exact h
  have hword := word_any h
  rcases ht : tkAt T i with ⟨tk, ts, tn, tp⟩
  rw [ht] at hword
  dsimp only at hword
  have HT : Hid (tkAt T i = ⟨tk, ts, tn, tp⟩) := ht
  go_enter Try.func85, Try.ntmps85
  go_wp2_with fail
  clear ht
  refine hword.mono ?_
  clear hword
  rintro e w1 ⟨rfl, hb1⟩
  have bA : Below w1.heap.size w1 (w1.alloc (Obj.cells #[.int .i64 tk, .string ts, .int .i64 tn, .int .i64 tp] 59)) := (Below.refl _ _).alloc (Nat.le_refl _) _
  have b2 := hb1.trans (bA.mono hb1.size)
  have h2 := h.stays b2
  have y0 : (w1.alloc (Obj.cells #[.int .i64 tk, .string ts, .int .i64 tn, .int .i64 tp] 59)).cell? ⟨w1.heap.size, 0, none⟩ = some (.int .i64 tk) := by simp [go_sem]
  have y1 : (w1.alloc (Obj.cells #[.int .i64 tk, .string ts, .int .i64 tn, .int .i64 tp] 59)).cell? ⟨w1.heap.size, 1, none⟩ = some (.string ts) := by simp [go_sem]
  have y2 : (w1.alloc (Obj.cells #[.int .i64 tk, .string ts, .int .i64 tn, .int .i64 tp] 59)).cell? ⟨w1.heap.size, 2, none⟩ = some (.int .i64 tn) := by simp [go_sem]
  have hrb : rb ≠ w1.heap.size := by have := h.row.lt; have := hb1.size; omega
  have hrb' : w1.heap.size ≠ rb := fun e => hrb e.symm
  have hm2 := Mv.of_below (rb := rb) (nv := nv) (q := q) b2
  clear hb1 bA b2
  by_cases hk1 : tk = 1
  · subst hk1
    have hi : i < T.length := kind_lt (k := 1) (by rw [HT.out]) (by omega)
    have hr := signedG_num (R := fns T n) (d := d) (ns := qnds q) HT.out
    change Hid _ at hr
    obtain ⟨_, _, c2, _, _⟩ := h2.cells
    have f2 := h2.row.frozen 2
    obtain ⟨h3, m3⟩ := h2.set 2 (.int .i64 ((i : Int) + 1)) (i' := i + 1) (d' := d) (fun k hk => by
      match k, hk with
      | 0, _ => rfl
      | 1, _ => rfl
      | 2, _ => simp [rdf]
      | 3, _ => rfl
      | 4, _ => rfl) hi h.hd (by have := h.hq; omega)
    have hm3 := hm2.trans m3
    go_wp2_with fail
    generalize (w1.alloc (Obj.cells #[.int .i64 1, .string ts, .int .i64 tn, .int .i64 tp] 59)).setCell ⟨rb, 2, none⟩ (.int .i64 ((i : Int) + 1)) = w3 at *
    refine (put_none h3 ⟨0, empS, tn, []⟩ rfl (by have := h.hq; omega)).mono ?_
    rintro e w4 ⟨rfl, nv', q', hR, hq', hM, hl⟩
    go_wp2
    rw [hr.out]
    go_ret
    exact ⟨rfl, nv', q', hR, hq', hm3.trans hM, by omega, by omega⟩
  · by_cases hs1 : ts = (ByteArray.mk #[45])
    · subst hs1
      have hi : i < T.length := wS_lt (x := (ByteArray.mk #[45])) (by rw [wS, HT.out]) (by decide)
      have hsk : skipF T (ByteArray.mk #[45]) i (qnds q) = .ok () (i + 1) (qnds q) := by rw [skipF, wS, HT.out, if_pos rfl]
      have hr := signedG_neg (R := fns T n) (d := d) (ns := qnds q) HT.out hk1
      change Hid _ at hr
      go_wp2_with fail
      clear y0 y1 y2
      generalize (w1.alloc (Obj.cells #[.int .i64 tk, .string (ByteArray.mk #[45]), .int .i64 tn, .int .i64 tp] 59)) = w2 at *
      refine (skip_any h2 _ (by decide)).mono ?_
      rw [hsk]
      rintro e w3 ⟨rfl, h3, _, m3⟩
      have hm3 := hm2.trans m3
      by_cases hd : d = 30
      · subst hd
        replace hr := hr.out
        rw [if_pos rfl] at hr
        change Hid _ at hr
        go_wp2_with fail
        refine (enter_bad h3).mono ?_
        rintro e w4 ⟨rfl, hle, hB⟩
        go_wp2
        rw [hr.out]
        exact ⟨rfl, rfl, hle, (hm3.below h).trans hB⟩
      · obtain ⟨m, rfl⟩ : ∃ m, m + 1 = n := ⟨n - 1, by omega⟩
        go_wp2_with fail
        refine (enter_any h3 hd).mono ?_
        rintro e w4 ⟨rfl, h4, m4⟩
        have hm4 := hm3.trans m4
        go_wp2_with fail
        refine (ihS m rfl w4 (i + 1) (d + 1) nv q h4 (by omega)).mono ?_
        have hr2 : Hid ((if d = 30 then PR.bad (i + 1) else ((fns T (m + 1)).signed (d + 1) (i + 1) (qnds q)).then fun k i ns => putF ⟨2, empS, 0, [(k : Int)]⟩ i ns) = (signedG T (fns T m) (d + 1) (i + 1) (qnds q)).then fun k i ns => putF ⟨2, empS, 0, [(k : Int)]⟩ i ns) := by show _ = _; rw [if_neg hd]; rfl
        rcases hsg : signedG T (fns T m) (d + 1) (i + 1) (qnds q) with ⟨k, i', ns'⟩ | i'
        · rintro e w5 ⟨rfl, nv', q', hR, rfl, hM, hle, hlen⟩
          replace hr2 := hr2.out; rw [hsg] at hr2; change Hid _ at hr2
          have hm5 := hm4.trans hM
          have hi' := hR.hi
          go_wp2_with fail
          refine (leave_any hR).mono ?_
          rintro e w6 ⟨rfl, h6, m6⟩
          have hm6 := hm5.trans m6
          go_wp2_with fail
          refine (put_fresh h6 ⟨2, empS, 0, [(k : Int)]⟩ (by have := h.hq; omega) (by simp)).mono ?_
          rintro e w7 ⟨rfl, nv7, q7, hR7, hq7, hM7, hl7⟩
          go_wp2
          rw [hr.out]
          rw [hr2.out]
          go_ret
          exact ⟨rfl, nv7, q7, hR7, hq7, hm6.trans hM7, by omega, by omega⟩
        · rintro e w5 ⟨rfl, hle, hB⟩
          replace hr2 := hr2.out; rw [hsg] at hr2; change Hid _ at hr2
          go_wp2
          rw [hr.out]
          rw [hr2.out]
          exact ⟨rfl, rfl, hle, (hm4.below h).trans hB⟩
    · by_cases hs2 : ts = (ByteArray.mk #[40])
      · subst hs2
        have hi : i < T.length := wS_lt (x := (ByteArray.mk #[40])) (by rw [wS, HT.out]) (by decide)
        have hsk : skipF T (ByteArray.mk #[40]) i (qnds q) = .ok () (i + 1) (qnds q) := by rw [skipF, wS, HT.out, if_pos rfl]
        have hr := signedG_par (R := fns T n) (d := d) (ns := qnds q) HT.out hk1
        change Hid _ at hr
        clear hs1
        go_wp2_with fail
        clear y0 y1 y2
        generalize (w1.alloc (Obj.cells #[.int .i64 tk, .string (ByteArray.mk #[40]), .int .i64 tn, .int .i64 tp] 59)) = w2 at *
        refine (skip_any h2 _ (by decide)).mono ?_
        rw [hsk]
        rintro e w3 ⟨rfl, h3, _, m3⟩
        have hm3 := hm2.trans m3
        obtain ⟨m, rfl⟩ : ∃ m, m + 1 = n := ⟨n - 1, by omega⟩
        go_wp2_with fail
        refine (ihE m rfl w3 (i + 1) d nv q h3 (by omega)).mono ?_
        have hr2 : Hid ((((fns T (m + 1)).expr d (i + 1) (qnds q)).then fun k i ns => (skipF T (ByteArray.mk #[41]) i ns).then fun _ i ns => .ok k i ns) = (exprG T (fns T m) d (i + 1) (qnds q)).then fun k i ns => (skipF T (ByteArray.mk #[41]) i ns).then fun _ i ns => .ok k i ns) := rfl
        rcases hsg : exprG T (fns T m) d (i + 1) (qnds q) with ⟨k, i', ns'⟩ | i'
        · rintro e w5 ⟨rfl, nv', q', hR, rfl, hM, hle, hlen⟩
          replace hr2 := hr2.out; rw [hsg, PR.then_ok] at hr2; change Hid _ at hr2
          have hm5 := hm3.trans hM
          have hi' := hR.hi
          go_wp2_with fail
          refine (skip_any hR _ (by decide)).mono ?_
          rcases hsk2 : skipF T (ByteArray.mk #[41]) i' (qnds q') with ⟨_, i6, ns6⟩ | i6
          · rintro e w6 ⟨rfl, h6, rfl, m6⟩
            replace hr2 := hr2.out; rw [hsk2] at hr2; change Hid _ at hr2
            have hi6 : i6 = i' + 1 := by
              unfold skipF at hsk2
              split at hsk2 <;> cases hsk2
              rfl
            go_wp2
            rw [hr.out]
            rw [hr2.out]
            go_ret
            exact ⟨rfl, nv', q', h6, rfl, hm5.trans m6, by omega, by omega⟩
          · rintro e w6 ⟨rfl, hle6, hB⟩
            replace hr2 := hr2.out; rw [hsk2] at hr2; change Hid _ at hr2
            go_wp2
            rw [hr.out]
            rw [hr2.out]
            exact ⟨rfl, rfl, hle6, (hm5.below h).trans hB⟩
        · rintro e w5 ⟨rfl, hle, hB⟩
          replace hr2 := hr2.out; rw [hsg, PR.then_bad] at hr2; change Hid _ at hr2
          go_wp2
          rw [hr.out]
          rw [hr2.out]
          exact ⟨rfl, rfl, hle, (hm3.below h).trans hB⟩
      · have hn1 := text_ne_lit (l := [45]) hs1
        have hn2 := text_ne_lit (l := [40]) hs2
        have hr := signedG_else (R := fns T n) (d := d) (ns := qnds q) HT.out hk1 hs1 hs2
        change Hid _ at hr
        change Hid _ at hs1
        change Hid _ at hs2
        go_wp2_with fail
        clear y0 y1 y2
        generalize (w1.alloc (Obj.cells #[.int .i64 tk, .string ts, .int .i64 tn, .int .i64 tp] 59)) = w2 at *
        refine (take_any h2 2 (by omega)).mono ?_
        rcases htk : takeF T 2 i (qnds q) with ⟨t, i3, ns3⟩ | i3
        · rintro e w3 ⟨rfl, h3, rfl, m3⟩
          have hm3 := hm2.trans m3
          have hi3 : i3 = i + 1 := by
            unfold takeF at htk
            split at htk <;> cases htk
            rfl
          have hfl : ∀ y : World, (Instr.field 59 (.agg #[.int .i64 t.k, .string t.s, .int .i64 t.n, .int .i64 t.p]) 1).run Try.prog y = .ok (.string t.s) y := fun y => by kernel_rfl
          go_wp2_with fail
          refine (put_none h3 ⟨1, t.s, 0, []⟩ rfl (by have := h.hq; omega)).mono ?_
          rintro e w4 ⟨rfl, nv', q', hR, hq', hM, hl⟩
          go_wp2
          rw [hr.out]
          rw [htk, PR.then_ok]
          go_ret
          exact ⟨rfl, nv', q', hR, hq', hm3.trans hM, by omega, by omega⟩
        · rintro e w3 ⟨rfl, hle, hB⟩
          go_wp2
          rw [hr.out]
          rw [htk, PR.then_bad]
          exact ⟨rfl, rfl, hle, (hm2.below h).trans hB⟩

end Go.Proofs.Ytkdlgglikhbnkac
