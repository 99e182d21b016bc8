/- Expressions: products and sums. -/
import Derived.Test.YtkdlgglikhbnkacPExpr1
namespace Go.Proofs.Ytkdlgglikhbnkac
open Go.ChangeShapes Go.WideShapes Go.ChangeAt Go.RowKit
set_option linter.unusedVariables false
set_option maxRecDepth 100000
attribute [local go_sem ↓] Go.wp_at_zero Go.wp_at_succ

def posOf (w : World) (rb : Nat) : Nat := match w.cell? ⟨rb, 2, none⟩ with | some v => (intOf v).toNat | none => 0
theorem Rd.pos {base rb : Nat} {T : List Tk} {wv : Value} {en : Nat} {w : World} {i d : Nat} {nv : Value} {q : List Qn} (h : Rd base rb T wv en w i d nv q) : posOf w rb = i := by
  rw [posOf, h.cells.2.2.1]
  simp [intOf]

/-- The answer of a function that tells a sign's kind. -/
def kindV (o : Option Int) : Value := match o with
  | some k => .tuple #[.int .i64 k, .bool true]
  | none => .tuple #[.int .i64 0, .bool false]

theorem productKind_any (x : ByteArray) (w : World) : Calls Try.prog 86 #[.string x] w fun e w' => e = .returned (kindV (prodKind x)) ∧ w' = w := by
  by_cases h1 : x = (ByteArray.mk #[42])
  · subst h1
    rw [show prodKind (ByteArray.mk #[42]) = some 5 from by decide +kernel]
    go_enter Try.func86, Try.ntmps86
    go_wp2
    go_ret2
    exact ⟨rfl, rfl⟩
  · have n1 := text_ne_lit (l := [42]) h1
    by_cases h2 : x = (ByteArray.mk #[47])
    · subst h2
      rw [show prodKind (ByteArray.mk #[47]) = some 6 from by decide +kernel]
      clear n1 h1
      go_enter Try.func86, Try.ntmps86
      go_wp2
      go_ret2
      exact ⟨rfl, rfl⟩
    · have n2 := text_ne_lit (l := [47]) h2
      by_cases h3 : x = (ByteArray.mk #[37])
      · subst h3
        rw [show prodKind (ByteArray.mk #[37]) = some 7 from by decide +kernel]
        clear n1 h1 n2 h2
        go_enter Try.func86, Try.ntmps86
        go_wp2
        go_ret2
        exact ⟨rfl, rfl⟩
      · have n3 := text_ne_lit (l := [37]) h3
        rw [show prodKind x = none from by rw [prodKind, if_neg h1, if_neg h2, if_neg h3]]
        change Hid _ at h1
        change Hid _ at h2
        change Hid _ at h3
        go_enter Try.func86, Try.ntmps86
        go_wp2
        go_ret2
        exact ⟨rfl, rfl⟩

theorem sumKind_any (x : ByteArray) (w : World) : Calls Try.prog 83 #[.string x] w fun e w' => e = .returned (kindV (sumKind x)) ∧ w' = w := by
  by_cases h1 : x = (ByteArray.mk #[43])
  · subst h1
    rw [show sumKind (ByteArray.mk #[43]) = some 3 from by decide +kernel]
    go_enter Try.func83, Try.ntmps83
    go_wp2
    go_ret2
    exact ⟨rfl, rfl⟩
  · have n1 := text_ne_lit (l := [43]) h1
    by_cases h2 : x = (ByteArray.mk #[45])
    · subst h2
      rw [show sumKind (ByteArray.mk #[45]) = some 4 from by decide +kernel]
      clear n1 h1
      go_enter Try.func83, Try.ntmps83
      go_wp2
      go_ret2
      exact ⟨rfl, rfl⟩
    · have n2 := text_ne_lit (l := [45]) h2
      rw [show sumKind x = none from by rw [sumKind, if_neg h1, if_neg h2]]
      change Hid _ at h1
      change Hid _ at h2
      go_enter Try.func83, Try.ntmps83
      go_wp2
      go_ret2
      exact ⟨rfl, rfl⟩

theorem compareKind_any (x : ByteArray) (w : World) : Calls Try.prog 80 #[.string x] w fun e w' => e = .returned (kindV (cmpKind x)) ∧ w' = w := by
  by_cases h1 : x = (ByteArray.mk #[60])
  · subst h1
    rw [show cmpKind (ByteArray.mk #[60]) = some 8 from by decide +kernel]
    go_enter Try.func80, Try.ntmps80
    go_wp2
    go_ret2
    exact ⟨rfl, rfl⟩
  · have n1 := text_ne_lit (l := [60]) h1
    by_cases h2 : x = (ByteArray.mk #[61, 61])
    · subst h2
      rw [show cmpKind (ByteArray.mk #[61, 61]) = some 9 from by decide +kernel]
      clear n1 h1
      go_enter Try.func80, Try.ntmps80
      go_wp2
      go_ret2
      exact ⟨rfl, rfl⟩
    · have n2 := text_ne_lit (l := [61, 61]) h2
      rw [show cmpKind x = none from by rw [cmpKind, if_neg h1, if_neg h2]]
      change Hid _ at h1
      change Hid _ at h2
      go_enter Try.func80, Try.ntmps80
      go_wp2
      go_ret2
      exact ⟨rfl, rfl⟩

theorem kind_emp : prodKind empS = none ∧ sumKind empS = none ∧ cmpKind empS = none := by decide +kernel

def ProductC (base rb : Nat) (T : List Tk) (wv : Value) (en n : Nat) : Prop := ∀ (w : World) (i d : Nat) (nv : Value) (q : List Qn), Rd base rb T wv en w i d nv q → T.length - i ≤ n →
  Calls Try.prog 82 #[.pointer (some ⟨rb, 0, none⟩)] w (NRet base rb T wv en w nv q d i (productG T (fns T n) d i (qnds q)))

theorem prodLG_some {T : List Tk} {m d k i : Nat} {ns : List Nd} {kd : Int} (h : prodKind (wS T i) = some kd) : prodLG T (fns T (m + 1)) d k i ns = (signedG T (fns T (m + 1)) d (i + 1) ns).then fun b i ns => prodLG T (fns T m) d ns.length i (ns ++ [⟨kd, empS, 0, [(k : Int), (b : Int)]⟩]) := by
  rw [prodLG, h]
  rfl
theorem prodLG_none {T : List Tk} {R : Fns} {d k i : Nat} {ns : List Nd} (h : prodKind (wS T i) = none) : prodLG T R d k i ns = .ok k i ns := by
  rw [prodLG, h]

set_option maxHeartbeats 4000000 in
theorem product_step {base rb : Nat} {T : List Tk} {wv : Value} {en n : Nat} (hS : ∀ m, m ≤ n → SignedC base rb T wv en m) : ProductC base rb T wv en n := by
  intro w i d nv q h hn
  have hT6 : T.length ≤ 6000 := by obtain ⟨_, _, _, h, _⟩ := h.words; exact h
  have hdef : productG T (fns T n) d i (qnds q) = (signedG T (fns T n) d i (qnds q)).then (prodLG T (fns T n) d) := rfl
  change Hid _ at hdef
  go_enter Try.func82, Try.ntmps82
  go_wp2_with fail
  refine (hS n (Nat.le_refl _) w i d nv q h hn).mono ?_
  rcases hsg : signedG T (fns T n) d i (qnds q) with ⟨k, i1, ns1⟩ | i1
  · rintro e w1 ⟨rfl, nv1, q1, hR1, rfl, hM1, hle1, hlen1⟩
    have heq1 : Hid (productG T (fns T n) d i (qnds q) = prodLG T (fns T n) d k i1 (qnds q1)) := by show _ = _; rw [hdef.out, hsg]; rfl
    clear hdef hsg
    go_wp2_with fail
    go_loopw [3] (fun t3 wr => ∃ (m k i' : Nat) (nv' : Value) (q' : List Qn), t3 = .int .i64 (k : Int) ∧ Rd base rb T wv en wr i' d nv' q' ∧ T.length - i' ≤ m ∧ m ≤ n ∧ Hid (productG T (fns T n) d i (qnds q) = prodLG T (fns T m) d k i' (qnds q')) ∧ Mv rb w nv q wr nv' q' ∧ i ≤ i' ∧ q'.length + i ≤ q.length + i') (fun _ wr => T.length - posOf wr rb)
    case atStart => exact ⟨n, k, i1, nv1, q1, rfl, hR1, by omega, Nat.le_refl _, heq1, hM1, hle1, hlen1⟩
    case round =>
      rename World => wo
      obtain ⟨m, k, i', nv', q', rfl, hR, hm, hmn, heq, hM, hii, hlen⟩ := hrel
      have hf : ∀ y : World, (Instr.field 59 (.agg #[.int .i64 (tkAt T i').k, .string (tkAt T i').s, .int .i64 (tkAt T i').n, .int .i64 (tkAt T i').p]) 1).run Try.prog y = .ok (.string (wS T i')) y := fun y => by kernel_rfl
      have hpo := hR.pos
      have hqi := hR.hq
      go_wp2_with fail
      refine (word_any hR).mono ?_
      rintro e w2 ⟨rfl, hb2⟩
      have h2 := hR.stays hb2
      have hM2 := hM.trans (Mv.of_below (rb := rb) (nv := nv') (q := q') hb2)
      go_wp2_with fail
      refine (productKind_any (wS T i') _).mono ?_
      rintro e w3 ⟨rfl, rfl⟩
      rcases hkd : prodKind (wS T i') with _ | kd
      · have hres := heq.out
        rw [prodLG_none hkd] at hres
        change Hid _ at hres
        unfold kindV
        go_wp2
        rw [hres.out]
        go_ret
        exact ⟨rfl, nv', q', h2, rfl, hM2, hii, hlen⟩
      · have hlt : i' < T.length := by
          by_cases hl : i' < T.length
          · exact hl
          · rw [wS, wS_end (by omega)] at hkd
            exact absurd (hkd.symm.trans kind_emp.1) (by simp)
        obtain ⟨m1, rfl⟩ : ∃ m1, m = m1 + 1 := ⟨m - 1, by omega⟩
        have hres := heq.out
        rw [prodLG_some hkd] at hres
        change Hid _ at hres
        obtain ⟨_, _, c2, _, _⟩ := h2.cells
        have f2 := h2.row.frozen 2
        obtain ⟨h3, m3⟩ := h2.set 2 (.int .i64 ((i' : Int) + 1)) (i' := i' + 1) (d' := d) (fun k hk => by
          match k, hk with
          | 0, _ => rfl
          | 1, _ => rfl
          | 2, _ => simp [rdf]
          | 3, _ => rfl
          | 4, _ => rfl) hlt h.hd (by omega)
        have hM3 := hM2.trans m3
        clear hkd
        unfold kindV
        go_wp2_with fail
        generalize w3.setCell ⟨rb, 2, none⟩ (.int .i64 ((i' : Int) + 1)) = w4 at *
        refine (hS (m1 + 1) hmn w4 (i' + 1) d nv' q' h3 (by omega)).mono ?_
        rcases hsg : signedG T (fns T (m1 + 1)) d (i' + 1) (qnds q') with ⟨b, i5, ns5⟩ | i5
        · rintro e w5 ⟨rfl, nv5, q5, hR5, rfl, hM5, hle5, hlen5⟩
          have hi5 := hR5.hi
          replace hres := hres.out
          rw [hsg, PR.then_ok] at hres
          change Hid _ at hres
          have hM5' := hM3.trans hM5
          go_wp2_with fail
          refine (put_fresh hR5 ⟨kd, empS, 0, [(k : Int), (b : Int)]⟩ (by omega) (by simp)).mono ?_
          rintro e w6 ⟨rfl, nv6, q6, hR6, hq6, hM6, hl6⟩
          have hp6 := hR6.pos
          have hres2 : Hid (productG T (fns T n) d i (qnds q) = prodLG T (fns T m1) d (qnds q5).length i5 (qnds q6)) := by show _ = _; rw [hq6]; exact hres.out
          clear hres hq6
          go_wp2
          go_roundw
          case rel => exact ⟨m1, (qnds q5).length, i5, nv6, q6, rfl, hR6, by omega, by omega, hres2, hM5'.trans hM6, by omega, by omega⟩
          case measure => rw [hpo, hp6]; omega
        · rintro e w5 ⟨rfl, hle5, hB5⟩
          replace hres := hres.out
          rw [hsg, PR.then_bad] at hres
          change Hid _ at hres
          go_wp2
          rw [hres.out]
          exact ⟨rfl, rfl, hle5, (hM3.below h).trans hB5⟩
  · rintro e w1 ⟨rfl, hle, hB⟩
    go_wp2
    rw [hdef.out, hsg]
    exact ⟨rfl, rfl, hle, hB⟩

def SumC (base rb : Nat) (T : List Tk) (wv : Value) (en n : Nat) : Prop := ∀ (w : World) (i d : Nat) (nv : Value) (q : List Qn), Rd base rb T wv en w i d nv q → T.length - i ≤ n →
  Calls Try.prog 79 #[.pointer (some ⟨rb, 0, none⟩)] w (NRet base rb T wv en w nv q d i (sumG T (fns T n) d i (qnds q)))

theorem sumLG_some {T : List Tk} {m d k i : Nat} {ns : List Nd} {kd : Int} (h : sumKind (wS T i) = some kd) : sumLG T (fns T (m + 1)) d k i ns = (productG T (fns T (m + 1)) d (i + 1) ns).then fun b i ns => sumLG T (fns T m) d ns.length i (ns ++ [⟨kd, empS, 0, [(k : Int), (b : Int)]⟩]) := by
  rw [sumLG, h]
  rfl
theorem sumLG_none {T : List Tk} {R : Fns} {d k i : Nat} {ns : List Nd} (h : sumKind (wS T i) = none) : sumLG T R d k i ns = .ok k i ns := by
  rw [sumLG, h]

set_option maxHeartbeats 4000000 in
theorem sum_step {base rb : Nat} {T : List Tk} {wv : Value} {en n : Nat} (hS : ∀ m, m ≤ n → ProductC base rb T wv en m) : SumC base rb T wv en n := by
  intro w i d nv q h hn
  have hT6 : T.length ≤ 6000 := by obtain ⟨_, _, _, h, _⟩ := h.words; exact h
  have hdef : sumG T (fns T n) d i (qnds q) = (productG T (fns T n) d i (qnds q)).then (sumLG T (fns T n) d) := rfl
  change Hid _ at hdef
  go_enter Try.func79, Try.ntmps79
  go_wp2_with fail
  refine (hS n (Nat.le_refl _) w i d nv q h hn).mono ?_
  rcases hsg : productG T (fns T n) d i (qnds q) with ⟨k, i1, ns1⟩ | i1
  · rintro e w1 ⟨rfl, nv1, q1, hR1, rfl, hM1, hle1, hlen1⟩
    have heq1 : Hid (sumG T (fns T n) d i (qnds q) = sumLG T (fns T n) d k i1 (qnds q1)) := by show _ = _; rw [hdef.out, hsg]; rfl
    clear hdef hsg
    go_wp2_with fail
    go_loopw [3] (fun t3 wr => ∃ (m k i' : Nat) (nv' : Value) (q' : List Qn), t3 = .int .i64 (k : Int) ∧ Rd base rb T wv en wr i' d nv' q' ∧ T.length - i' ≤ m ∧ m ≤ n ∧ Hid (sumG T (fns T n) d i (qnds q) = sumLG T (fns T m) d k i' (qnds q')) ∧ Mv rb w nv q wr nv' q' ∧ i ≤ i' ∧ q'.length + i ≤ q.length + i') (fun _ wr => T.length - posOf wr rb)
    case atStart => exact ⟨n, k, i1, nv1, q1, rfl, hR1, by omega, Nat.le_refl _, heq1, hM1, hle1, hlen1⟩
    case round =>
      rename World => wo
      obtain ⟨m, k, i', nv', q', rfl, hR, hm, hmn, heq, hM, hii, hlen⟩ := hrel
      have hf : ∀ y : World, (Instr.field 59 (.agg #[.int .i64 (tkAt T i').k, .string (tkAt T i').s, .int .i64 (tkAt T i').n, .int .i64 (tkAt T i').p]) 1).run Try.prog y = .ok (.string (wS T i')) y := fun y => by kernel_rfl
      have hpo := hR.pos
      have hqi := hR.hq
      go_wp2_with fail
      refine (word_any hR).mono ?_
      rintro e w2 ⟨rfl, hb2⟩
      have h2 := hR.stays hb2
      have hM2 := hM.trans (Mv.of_below (rb := rb) (nv := nv') (q := q') hb2)
      go_wp2_with fail
      refine (sumKind_any (wS T i') _).mono ?_
      rintro e w3 ⟨rfl, rfl⟩
      rcases hkd : sumKind (wS T i') with _ | kd
      · have hres := heq.out
        rw [sumLG_none hkd] at hres
        change Hid _ at hres
        unfold kindV
        go_wp2
        rw [hres.out]
        go_ret
        exact ⟨rfl, nv', q', h2, rfl, hM2, hii, hlen⟩
      · have hlt : i' < T.length := by
          by_cases hl : i' < T.length
          · exact hl
          · rw [wS, wS_end (by omega)] at hkd
            exact absurd (hkd.symm.trans kind_emp.2.1) (by simp)
        obtain ⟨m1, rfl⟩ : ∃ m1, m = m1 + 1 := ⟨m - 1, by omega⟩
        have hres := heq.out
        rw [sumLG_some hkd] at hres
        change Hid _ at hres
        obtain ⟨_, _, c2, _, _⟩ := h2.cells
        have f2 := h2.row.frozen 2
        obtain ⟨h3, m3⟩ := h2.set 2 (.int .i64 ((i' : Int) + 1)) (i' := i' + 1) (d' := d) (fun k hk => by
          match k, hk with
          | 0, _ => rfl
          | 1, _ => rfl
          | 2, _ => simp [rdf]
          | 3, _ => rfl
          | 4, _ => rfl) hlt h.hd (by omega)
        have hM3 := hM2.trans m3
        clear hkd
        unfold kindV
        go_wp2_with fail
        generalize w3.setCell ⟨rb, 2, none⟩ (.int .i64 ((i' : Int) + 1)) = w4 at *
        refine (hS (m1 + 1) hmn w4 (i' + 1) d nv' q' h3 (by omega)).mono ?_
        rcases hsg : productG T (fns T (m1 + 1)) d (i' + 1) (qnds q') with ⟨b, i5, ns5⟩ | i5
        · rintro e w5 ⟨rfl, nv5, q5, hR5, rfl, hM5, hle5, hlen5⟩
          have hi5 := hR5.hi
          replace hres := hres.out
          rw [hsg, PR.then_ok] at hres
          change Hid _ at hres
          have hM5' := hM3.trans hM5
          go_wp2_with fail
          refine (put_fresh hR5 ⟨kd, empS, 0, [(k : Int), (b : Int)]⟩ (by omega) (by simp)).mono ?_
          rintro e w6 ⟨rfl, nv6, q6, hR6, hq6, hM6, hl6⟩
          have hp6 := hR6.pos
          have hres2 : Hid (sumG T (fns T n) d i (qnds q) = sumLG T (fns T m1) d (qnds q5).length i5 (qnds q6)) := by show _ = _; rw [hq6]; exact hres.out
          clear hres hq6
          go_wp2
          go_roundw
          case rel => exact ⟨m1, (qnds q5).length, i5, nv6, q6, rfl, hR6, by omega, by omega, hres2, hM5'.trans hM6, by omega, by omega⟩
          case measure => rw [hpo, hp6]; omega
        · rintro e w5 ⟨rfl, hle5, hB5⟩
          replace hres := hres.out
          rw [hsg, PR.then_bad] at hres
          change Hid _ at hres
          go_wp2
          rw [hres.out]
          exact ⟨rfl, rfl, hle5, (hM3.below h).trans hB5⟩
  · rintro e w1 ⟨rfl, hle, hB⟩
    go_wp2
    rw [hdef.out, hsg]
    exact ⟨rfl, rfl, hle, hB⟩

end Go.Proofs.Ytkdlgglikhbnkac
