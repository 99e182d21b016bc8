/- For every code, the law of words returns true. -/
import Derived.Test.YtfliahkcfnpjcabLex6
import Derived.Test.YtfliahkcfnpjcabWDraw
import Derived.Test.YtfliahkcfnpjcabOpenCode
import Derived.Test.YtfliahkcfnpjcabWDec
import Derived.Test.YtfliahkcfnpjcabRelex2
import Derived.ChangeOld
import Derived.Lib.SmallJoins
namespace Go.Proofs.Ytfliahkcfnpjcab
open Go.ChangeShapes Go.WideShapes Go.ChangeAt Go.RowKit Go.Sort Go.Deep Go.Joins
set_option linter.unusedVariables false
set_option maxRecDepth 100000
attribute [local go_sem ↓] Go.wp_at_zero Go.wp_at_succ

theorem joinL_take {l : List Tk} {i : Nat} (h : i < l.length) : joinL (l.take (i + 1)) = joinL (l.take i) ++ (ttx (tkAt l i) ++ [32]) := by
  rw [← joinL_snoc, List.take_add_one]
  simp [tkAt, h]
theorem joinL_len (l : List Tk) (i : Nat) : (joinL (l.take i)).length ≤ (joinL l).length := by
  have : joinL (l.take i) ++ joinL (l.drop i) = joinL l := by
    unfold joinL
    rw [← List.flatMap_append, List.take_append_drop]
  rw [← this]
  simp
theorem ttx_len {l : List Tk} {i : Nat} (h : i < l.length) : (joinL (l.take i)).length + (ttx (tkAt l i)).length + 1 ≤ (joinL l).length := by
  have := joinL_len l (i + 1)
  rw [joinL_take h] at this
  simp at this
  omega

theorem good_num {t : Tk} (h : Good t) (hk : t.k = 1) : ∃ m : Nat, t.n = (m : Int) ∧ m < 10 ^ 12 := by
  rcases h with h | h | h | h
  · exact ⟨t.n.toNat, by omega, by omega⟩
  · have := h.1
    split at this <;> omega
  · omega
  · omega

set_option maxHeartbeats 4000000 in
theorem fnWords_any (a : Option Addr) (n cap : Nat) (w : World) (hc : BytesIn w a n) :
    Calls Try.prog 3 #[.slice a n cap] w fun e w' => e = .returned (.bool true) ∧ Below w.heap.size w w' := by
  go_enter Try.func3, Try.ntmps3
  go_wp2_with fail
  refine (drawLex_any a n cap _ hc).mono ?_
  rintro e w1 ⟨⟨s, rfl, hs⟩, hb1⟩
  have eG : lexF s = lexGo s 0 [] := by rw [lexF, if_neg (by omega)]
  obtain ⟨hi, hk⟩ := lexGo_inv s 0 [] (Nat.zero_le _) (Inv.nil 0)
  rw [← eG] at hi hk
  clear eG
  have hre : (lexF s).2 = -1 → _ := fun h => relex hs h
  have hlen := hi.len
  have hlen6 : (lexF s).1.length ≤ 6000 := by
    have h0 : ∀ l : List Tk, l.length ≤ (joinL l).length := fun l => by
      induction l with
      | nil => simp
      | cons t l ih => rw [joinL_cons]; simp; omega
    have := h0 (lexF s).1
    omega
  go_wp2_with fail
  refine (implLex_any s _).mono ?_
  rintro e w2 ⟨v2, rfl, hO2, hb2⟩
  have V2 := tokV_of_owns hO2 hlen6
  clear hO2
  have b2 := hb1.trans (hb2.mono hb1.size)
  go_wp2_with fail
  refine (specLex_any s _).mono ?_
  rintro e w3 ⟨v3, rfl, hO3, hb3⟩
  have V3 := V2.stays hb3
  have b3 := b2.trans (hb3.mono b2.size)
  clear hO3 V2 hb3 hb2 hb1 b2
  generalize hll : lexF s = ll at *
  obtain ⟨l, kk⟩ := ll
  dsimp only at *
  obtain ⟨ga, gc, rfl, _, hg⟩ := V3
  rcases hk with rfl | ⟨hk0, rfl⟩
  · have hre2 := hre rfl
    clear hre
    obtain ⟨q1, q2, q3⟩ := hre2
    change Hid _ at q1
    change Hid _ at q2
    change Hid _ at q3
    change Hid _ at hll
    have hgood := hi.good
    have hasc := hi.asc
    change Hid _ at hgood
    change Hid _ at hasc
    clear hi hc
    go_wp2_with fail
    go_loopw [8, 9] (fun t8 t9 wr => ∃ i : Nat, i ≤ l.length ∧ t8 = .string ⟨(joinL (l.take i)).toArray⟩ ∧ t9 = .int .i64 (i : Int) ∧ Below w3.heap.size w3 wr) (fun _ t9 _ => l.length - (intOf t9).toNat)
    case atStart => exact ⟨0, Nat.zero_le _, by simp [joinL], rfl, Below.refl _ _⟩
    case round =>
      rename World => wo
      obtain ⟨i, hil, rfl, rfl, bo⟩ := hrel
      by_cases hlt : i < l.length
      · obtain ⟨g, rfl, hg1, hT⟩ := hg (by omega)
        obtain ⟨x0, x1, x2, x3⟩ := (hT.stays bo hg1) i hlt
        have hgd := hgood.out i hlt
        have hjl := ttx_len hlt
        have i0 : (0 : Int) ≤ (i : Int) := by omega
        have i1 : (i : Int) < (l.length : Int) := by omega
        by_cases hi0 : i = 0
        · subst hi0
          by_cases hk1 : (tkAt l 0).k = 1
          · rw [hk1] at x0
            obtain ⟨m, hm, hm9⟩ : ∃ m : Nat, (tkAt l 0).n = (m : Int) ∧ m < 10 ^ 12 := good_num hgd hk1
            rw [hm] at x2
            have htt : ttx (tkAt l 0) = decL m := by rw [ttx, if_pos hk1, hm]; rfl
            rw [htt] at hjl
            have c1 : ¬ 9223372036854775807 < (joinL (l.take 0)).length + (decL m).length := by omega
            have c2 : ¬ 9223372036854775807 < (joinL (l.take 0)).length + (decL m).length + 1 := by omega
            clear hgd
            go_wp2_with fail
            refine (dec_any m _ hm9).mono ?_
            rintro e w5 ⟨rfl, hb5⟩
            have b5 := bo.trans (hb5.mono bo.size)
            have hnx : (ByteArray.mk (joinL (l.take 0)).toArray ++ ByteArray.mk (decL m).toArray) ++ ByteArray.mk #[32] = ⟨(joinL (l.take (0 + 1))).toArray⟩ := by rw [joinL_take hlt, htt, cat_lists]; exact (cat_lists _ [32]).trans (by simp)
            go_wp2_with fail
            refine wp_region_quiet_below (by kernel_rfl) (by kernel_rfl) ?_
            repeat (go_big_quiet_step (fail))
            refine wpQuiet_nil ?_
            intro w6 hw6
            obtain ⟨⟨dq, osq⟩, hw7⟩ := hw6
            have hb6 : Below _ _ w6 := hw7 ▸ below_regrown _ dq osq
            clear hw7
            clear c1 c2
            go_wp2
            go_roundw
            case rel => exact ⟨0 + 1, by omega, by rw [← hnx]; rfl, by go_num, b5.trans (hb6.mono b5.size)⟩
            case measure => simp [intOf]; omega
          · have htt : ttx (tkAt l 0) = (tkAt l 0).s.data.toList := by rw [ttx, if_neg hk1]
            have hsz : (ttx (tkAt l 0)).length = (tkAt l 0).s.size := by rw [htt]; rfl
            rw [hsz] at hjl
            have c1 : ¬ 9223372036854775807 < (joinL (l.take 0)).length + (tkAt l 0).s.size := by omega
            have c2 : ¬ 9223372036854775807 < (joinL (l.take 0)).length + (tkAt l 0).s.size + 1 := by omega
            have b5 := bo
            have hnx : (ByteArray.mk (joinL (l.take 0)).toArray ++ (tkAt l 0).s) ++ ByteArray.mk #[32] = ⟨(joinL (l.take (0 + 1))).toArray⟩ := by
              rw [joinL_take hlt, htt]
              apply ByteArray.ext
              simp
            clear hgd
            go_wp2_with fail
            refine wp_region_quiet_below (by kernel_rfl) (by kernel_rfl) ?_
            repeat (go_big_quiet_step (fail))
            refine wpQuiet_nil ?_
            intro w6 hw6
            obtain ⟨⟨dq, osq⟩, hw7⟩ := hw6
            have hb6 : Below _ _ w6 := hw7 ▸ below_regrown _ dq osq
            clear hw7
            clear c1 c2
            go_wp2
            go_roundw
            case rel => exact ⟨0 + 1, by omega, by rw [← hnx]; rfl, by go_num, b5.trans (hb6.mono b5.size)⟩
            case measure => simp [intOf]; omega
        · have hasc1 := hasc.out (i - 1) (by omega)
          rw [show i - 1 + 1 = i from by omega] at hasc1
          have z3 := (hT i hlt).2.2.2
          have y3 := (hT (i - 1) (by omega)).2.2.2
          have ip : (0 : Int) < (i : Int) := by omega
          have ipn : 0 < i := by omega
          have le : decide ((tkAt l i).p ≤ (tkAt l (i - 1)).p) = false := decide_eq_false (by omega)
          have j0 : (0 : Int) ≤ (i : Int) - 1 := by omega
          have j1 : (i : Int) - 1 < (l.length : Int) := by omega
          have j2 : ((i : Int) - 1).toNat = i - 1 := by omega
          by_cases hk1 : (tkAt l i).k = 1
          · rw [hk1] at x0
            obtain ⟨m, hm, hm9⟩ : ∃ m : Nat, (tkAt l i).n = (m : Int) ∧ m < 10 ^ 12 := good_num hgd hk1
            rw [hm] at x2
            have htt : ttx (tkAt l i) = decL m := by rw [ttx, if_pos hk1, hm]; rfl
            rw [htt] at hjl
            have c1 : ¬ 9223372036854775807 < (joinL (l.take i)).length + (decL m).length := by omega
            have c2 : ¬ 9223372036854775807 < (joinL (l.take i)).length + (decL m).length + 1 := by omega
            clear hgd
            go_wp2_with fail
            refine (dec_any m _ hm9).mono ?_
            rintro e w5 ⟨rfl, hb5⟩
            have b5 := bo.trans (hb5.mono bo.size)
            have hnx : (ByteArray.mk (joinL (l.take i)).toArray ++ ByteArray.mk (decL m).toArray) ++ ByteArray.mk #[32] = ⟨(joinL (l.take (i + 1))).toArray⟩ := by rw [joinL_take hlt, htt, cat_lists]; exact (cat_lists _ [32]).trans (by simp)
            have k0 := cell_regrown (cell_stays b5 z3)
            have k1 := cell_regrown (cell_stays b5 y3)
            go_wp2_with fail
            refine wp_region_quiet_below (by kernel_rfl) (by kernel_rfl) ?_
            repeat (go_big_quiet_step (fail))
            refine wpQuiet_nil ?_
            intro w6 hw6
            obtain ⟨⟨dq, osq⟩, hw7⟩ := hw6
            have hb6 : Below _ _ w6 := hw7 ▸ below_regrown _ dq osq
            clear hw7
            clear k0 k1
            clear c1 c2
            go_wp2
            go_roundw
            case rel => exact ⟨i + 1, by omega, by rw [← hnx], by go_num, b5.trans (hb6.mono b5.size)⟩
            case measure => simp [intOf]; omega
          · have htt : ttx (tkAt l i) = (tkAt l i).s.data.toList := by rw [ttx, if_neg hk1]
            have hsz : (ttx (tkAt l i)).length = (tkAt l i).s.size := by rw [htt]; rfl
            rw [hsz] at hjl
            have c1 : ¬ 9223372036854775807 < (joinL (l.take i)).length + (tkAt l i).s.size := by omega
            have c2 : ¬ 9223372036854775807 < (joinL (l.take i)).length + (tkAt l i).s.size + 1 := by omega
            have b5 := bo
            have hnx : (ByteArray.mk (joinL (l.take i)).toArray ++ (tkAt l i).s) ++ ByteArray.mk #[32] = ⟨(joinL (l.take (i + 1))).toArray⟩ := by
              rw [joinL_take hlt, htt]
              apply ByteArray.ext
              simp
            clear hgd
            have k0 := cell_regrown (cell_stays bo z3)
            have k1 := cell_regrown (cell_stays bo y3)
            go_wp2_with fail
            refine wp_region_quiet_below (by kernel_rfl) (by kernel_rfl) ?_
            repeat (go_big_quiet_step (fail))
            refine wpQuiet_nil ?_
            intro w6 hw6
            obtain ⟨⟨dq, osq⟩, hw7⟩ := hw6
            have hb6 : Below _ _ w6 := hw7 ▸ below_regrown _ dq osq
            clear hw7
            clear k0 k1
            clear c1 c2
            go_wp2
            go_roundw
            case rel => exact ⟨i + 1, by omega, by rw [← hnx], by go_num, b5.trans (hb6.mono b5.size)⟩
            case measure => simp [intOf]; omega
      · have e : i = l.length := by omega
        subst e
        rw [List.take_length]
        have b5 := b3.trans (bo.mono b3.size)
        have HG : 0 < l.length → ∃ g, ga = some ⟨g, 0, none⟩ ∧ g < wo.heap.size ∧ ToksIn wo g l := fun hp => by
          obtain ⟨g, h1, h2, h3⟩ := hg hp
          exact ⟨g, h1, Nat.lt_of_lt_of_le h2 bo.size, h3.stays bo h2⟩
        clear hg
        go_wp2_with fail
        refine (implLex_any _ _).mono ?_
        rintro e w6 ⟨v6, rfl, hO6, hb6⟩
        have V6 := tokV_of_owns hO6 (by rw [q2.out]; exact hlen6)
        have b6 := b5.trans (hb6.mono b5.size)
        rw [q1.out]
        rw [TokV, q2.out] at V6
        clear hO6
        obtain ⟨ma, mc, rfl, _, hmg⟩ := V6
        generalize hM : (lexF { data := (joinL l).toArray }).fst = M at *
        go_wp2_with fail
        go_loopw [12] (fun t12 wr => ∃ i : Nat, i ≤ l.length ∧ t12 = .int .i64 (i : Int) ∧ Below w6.heap.size w6 wr) (fun t12 _ => l.length - (intOf t12).toNat)
        case atStart => exact ⟨0, Nat.zero_le _, rfl, Below.refl _ _⟩
        case round =>
          rename World => wp
          obtain ⟨i, hil, rfl, bp⟩ := hrel
          by_cases hlt : i < l.length
          · obtain ⟨g, rfl, hg1, hT⟩ := HG (by omega)
            obtain ⟨g', rfl, hg2, hT'⟩ := hmg (by omega)
            obtain ⟨x0, x1, x2, x3⟩ := ((hT.stays hb6 hg1).stays bp (Nat.lt_of_lt_of_le hg1 hb6.size)) i hlt
            obtain ⟨y0, y1, y2, y3⟩ := (hT'.stays bp hg2) i (by rw [q2.out]; exact hlt)
            obtain ⟨s1, s2, s3⟩ := q3.out i hlt
            rw [s1] at y0
            rw [s2] at y1
            rw [s3] at y2
            have k0 := cell_regrown x0
            have k1 := cell_regrown x1
            have k2 := cell_regrown x2
            have k3 := cell_regrown y0
            have k4 := cell_regrown y1
            have k5 := cell_regrown y2
            have i0 : (0 : Int) ≤ (i : Int) := by omega
            have i1 : (i : Int) < (l.length : Int) := by omega
            clear x0 x1 x2 x3 y0 y1 y2 y3 s1 s2 s3 HG hmg hT hT'
            go_wp2_with fail
            refine wp_region_quiet_below (by kernel_rfl) (by kernel_rfl) ?_
            repeat (go_big_quiet_step (fail))
            refine wpQuiet_nil ?_
            intro w7 hw7
            obtain ⟨⟨dq, osq⟩, hw8⟩ := hw7
            have hb7 : Below _ _ w7 := hw8 ▸ below_regrown _ dq osq
            clear hw8 k0 k1 k2 k3 k4 k5
            go_wp2
            go_roundw
            case rel => exact ⟨i + 1, by omega, by go_num, bp.trans (hb7.mono bp.size)⟩
            case measure => simp [intOf]; omega
          · have e : i = l.length := by omega
            subst e
            have b8 := b6.trans (bp.mono b6.size)
            clear HG hmg
            go_wp2_with fail
            refine (words_any _).mono ?_
            rintro e w9 ⟨rfl, hb9⟩
            go_wp2
            go_ret
            exact ⟨rfl, b8.trans (hb9.mono b8.size)⟩
  · clear hg hre
    go_wp2_with fail
    refine (words_any _).mono ?_
    rintro e w4 ⟨rfl, hb4⟩
    go_wp2
    go_ret
    exact ⟨rfl, b3.trans (hb4.mono b3.size)⟩
theorem own : ownKnob Try.prog.godebug = none := by kernel_rfl
theorem laidOut : laidOutB Try.prog = true := by kernel_rfl

set_option maxRecDepth 100000 in
theorem liftedWords (os : Os) (started : os.Started) (H : Type) (enc : TypeId × Value → H) :
    ReturnsInHanded {} Try.checked os 3 .any (Rows.fnWordsSpec.pre6 enc Try.prog Try.f3 Rows.fnWordsRow.domain false) (Rows.fnWordsSpec.post enc Try.prog Try.f3 false true false false) := by
  refine returnsInHanded_of_change (C := Try.checked) own started (by kernel_rfl) Try.func3
    (ChangeSpec.witness6 (enc := enc) (C := Try.checked) false ⟨#[], #[.slice none 0 0], []⟩ 8 (by kernel_rfl) (by kernel_rfl) (by kernel_rfl) (by kernel_rfl)) ?_
  intro W base args ds gs before hval0 hW hcnd _
  have hval : ∀ (j : Nat) t v, Try.f3.params[j]? = some t → args[j]? = some v → Value.okWide Try.prog W .any base t v := hval0
  have hW' := hW
  obtain ⟨p, q, hA0, hV, rfl, hfz, hnd⟩ := hW
  have hA : DataW.TrodAll enc Try.prog W 0 (fun _ => true) true Try.f3.params.toList args.toList ds p := hA0
  rw [Try.params3] at hA hval
  obtain ⟨v0, vs0, d0, ds0, p0, q0, hargs, rfl, rfl, h0, r0⟩ := trodAll_cons hA
  obtain ⟨rfl, rfl, rfl⟩ := trodAll_nil r0
  obtain rfl : args = #[v0] := by cases args; simp_all
  obtain ⟨rfl, rfl⟩ := trodVars_none hV
  have k0 := h0
  have lt0 : ∀ x ∈ p0, x.block < W.heap.size := by obtain ⟨m, hm⟩ := k0; exact DataW.trod_lt m _ _ _ hm
  obtain ⟨a, n, cap, rfl, hl⟩ := open_code (hval 0 22 v0 rfl rfl) h0
  clear hA0 hval0
  refine (fnWords_any a n cap W hl).mono fun e W' ⟨he, bel⟩ => ?_
  subst he
  exact ⟨_, rfl, _, _, _, [], _, [], hW', trodAll_mk1 (shut_bool Try.underlying4 _), trodAll_cons_mk (Below.trod laidOut (by kernel_rfl) (of_decide_eq_true (by kernel_rfl)) k0 bel lt0) trodAll_mk0, rfl, bel.frame _, fun h => by cases h⟩

theorem fnWords_holds : Rows.FnWordsSaid :=
  OpenClaim.holds_of_wide 3 Try.f3 rfl rfl rfl rfl rfl rfl rfl ⟨rfl, rfl, rfl, rfl, rfl⟩ rfl rfl rfl rfl rfl (by kernel_rfl) Try.func3 (by kernel_rfl)
    (of_decide_eq_true (by kernel_rfl)) (by unfold Func.isWrapper; first | (rw [if_pos (by decide +kernel)]; kernel_rfl) | (rw [if_neg (by decide +kernel)]; exact ⟨rfl, rfl⟩))
    (fun os started H enc _ => liftedWords os started H enc)

#print axioms fnWords_holds
end Go.Proofs.Ytfliahkcfnpjcab
