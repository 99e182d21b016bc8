/- For every text, the exact law of Lex returns true. -/
import Derived.Test.YtahbfmhdkcoboalLexM
import Derived.Test.YtahbfmhdkcoboalLex8
import Derived.ChangeOld
import Derived.ChangeMaps5
namespace Go.Proofs.Ytahbfmhdkcoboal
open Go.ChangeShapes Go.WideShapes Go.ChangeAt Go.RowKit
open Go.ChangeMaps (open_string shut_string)
set_option linter.unusedVariables false
set_option maxRecDepth 100000
attribute [local go_sem ↓] Go.wp_at_zero Go.wp_at_succ

theorem free_of_owns {w : World} {base g cap : Nat} {l : List Tk} (h : w.ownsRow base 36 4 (.slice (some ⟨g, 0, none⟩) l.length cap) l.length (tcells l)) : FreeT w g l.length := fun j hj => by
  refine ⟨?_, h.frozenAt j⟩
  rw [h.cellAt j hj]
  have : j < (tcells l).length := by rw [tcells_length]; exact hj
  exact ⟨_, List.getElem?_eq_getElem this⟩

theorem lexGo_length (s : ByteArray) (i : Nat) (acc : List Tk) (hi : i ≤ s.size) (h : acc.length ≤ i) : (lexGo s i acc).1.length ≤ s.size := by
  by_cases hlt : i < s.size
  · by_cases hw : whiteB (bAt s i) = true
    · rw [lexGo_white hlt hw]
      exact lexGo_length s (i + 1) acc (by omega) (by omega)
    · rw [Bool.not_eq_true] at hw
      cases hat : lexAt s i with
      | none => rw [lexGo_none hlt hw hat]; exact Nat.zero_le _
      | some x =>
        obtain ⟨t, e⟩ := x
        obtain ⟨h1, h2⟩ := lexAt_bounds hlt hat
        rw [lexGo_some hlt hw hat h1]
        exact lexGo_length s e (acc ++ [t]) h2 (by simp; omega)
  · rw [lexGo_end hlt]
    show acc.length ≤ _
    omega
termination_by s.size - i
theorem lexF_length (s : ByteArray) : (lexF s).1.length ≤ 6000 := by
  unfold lexF
  by_cases h : 6000 < s.size
  · rw [if_pos h]; exact Nat.zero_le _
  · rw [if_neg h]
    have := lexGo_length s 0 [] (Nat.zero_le _) (Nat.le_refl _)
    omega

set_option maxHeartbeats 2000000 in
theorem exactLex_any (s : ByteArray) (w : World) :
    Calls Try.prog 7 #[.string s] w fun e w' => e = .returned (.bool true) ∧ Below w.heap.size w w' := by
  by_cases hn : 1048576 < s.size
  · go_enter Try.func7, Try.ntmps7
    go_wp2
    go_ret
    exact ⟨rfl, Below.refl _ _⟩
  have hlen := lexF_length s
  go_enter Try.func7, Try.ntmps7
  go_wp2_with fail
  refine (specLex_any s _).mono ?_
  rintro e w1 ⟨v1, rfl, hO1, hb1⟩
  have V1 := tokV_of_owns hO1 hlen
  clear hO1
  go_wp2_with fail
  refine (implLex_any s _).mono ?_
  rintro e w2 ⟨v2, rfl, hO2, hb2⟩
  have V2 := tokV_of_owns hO2 hlen
  have W1 := V1.stays hb2
  go_wp2_with fail
  refine (eqTokS_same v2 v1 _ w2 V2 W1).mono ?_
  rintro e w3 ⟨rfl, hb3⟩
  obtain ⟨a2, c2, hv2⟩ : ∃ a2 c2, v2 = .slice a2 (lexF s).1.length c2 := by obtain ⟨a, c, h, _⟩ := V2; exact ⟨a, c, h⟩
  subst hv2
  have hA2 : 0 < (lexF s).1.length → ∃ g, a2 = some ⟨g, 0, none⟩ ∧ w1.heap.size ≤ g ∧ g < w3.heap.size ∧ FreeT w3 g (lexF s).1.length := fun hp => by
    obtain ⟨g, cap, e, h1, h2, _⟩ := toks_of_owns hO2 hp
    cases e
    exact ⟨g, rfl, h1, Nat.lt_of_lt_of_le h2 hb3.size, (free_of_owns hO2).stays hb3 h2⟩
  have W3 := W1.stays hb3
  have z12 := hb2.size
  have z23 := hb3.size
  clear hO2 V2 W1
  generalize hkk : (lexF s).2 = kk
  generalize hll : (lexF s).1 = l at *
  go_wp2_with fail
  refine (markTokS_any a2 l.length c2 1 w1.heap.size w3 (by omega) (by omega) (by omega) (by omega) hA2).mono ?_
  rintro e w4 ⟨rfl, hM4, hb4⟩
  have z34 := hb4.size
  have hA4 : 0 < l.length → ∃ g, a2 = some ⟨g, 0, none⟩ ∧ g < w4.heap.size ∧ MarkedT w4 g 1 l.length := fun hp => by
    obtain ⟨g, e, h1, h2, _⟩ := hA2 hp
    exact ⟨g, e, by omega, hM4 g e hp⟩
  have V4 : TokV w4 v1 l := by
    obtain ⟨a, cap, h1, h2, h3⟩ := V1
    refine ⟨a, cap, h1, h2, fun hp => ?_⟩
    obtain ⟨g, h4, h5, h6⟩ := h3 hp
    have hb14 : Below w1.heap.size w1 w4 := (hb2.trans (hb3.mono hb2.size)).trans hb4
    exact ⟨g, h4, Nat.lt_of_lt_of_le h5 hb14.size, h6.stays hb14 h5⟩
  have B4 : Below w.heap.size w w4 := ((hb1.trans (hb2.mono hb1.size)).trans (hb3.mono (by have := hb1.size; omega))).trans (hb4.mono hb1.size)
  clear hM4 hA2 V1 W3
  have hnn : ¬ ((1 + 4 * l.length : Nat) : Int) < 0 := by omega
  generalize hm : ((1 + 4 * l.length : Nat) : Int) = m at hnn ⊢
  have HM : Hid (((1 + 4 * l.length : Nat) : Int) = m) := hm
  clear hm
  go_wp2_with fail
  refine (heldTokS_any a2 l.length c2 1 w4 (by omega) (by omega) (by omega) hA4).mono ?_
  rintro e w5 ⟨rfl, hb5⟩
  have B5 : Below w.heap.size w w5 := B4.trans (hb5.mono B4.size)
  have V5 := V4.stays hb5
  have hA5 : 0 < l.length → ∃ g, a2 = some ⟨g, 0, none⟩ ∧ g < w5.heap.size ∧ MarkedT w5 g 1 l.length := fun hp => by
    obtain ⟨g, e, h1, h2⟩ := hA4 hp
    exact ⟨g, e, Nat.lt_of_lt_of_le h1 hb5.size, h2.stays hb5 h1⟩
  clear hA4 V4
  rw [HM.out]
  go_wp2_with fail
  refine (implLex_any s _).mono ?_
  rintro e w6 ⟨v6, rfl, hO6, hb6⟩
  rw [hll] at hO6
  rw [hkk]
  have V6 := tokV_of_owns hO6 (by omega)
  have W6 := V5.stays hb6
  have B6 : Below w.heap.size w w6 := B5.trans (hb6.mono B5.size)
  have hA6 : 0 < l.length → ∃ g, a2 = some ⟨g, 0, none⟩ ∧ g < w6.heap.size ∧ MarkedT w6 g 1 l.length := fun hp => by
    obtain ⟨g, e, h1, h2⟩ := hA5 hp
    exact ⟨g, e, Nat.lt_of_lt_of_le h1 hb6.size, h2.stays hb6 h1⟩
  clear hA5 V5 hO6
  go_wp2_with fail
  refine (eqTokS_same v6 v1 _ w6 V6 W6).mono ?_
  rintro e w7 ⟨rfl, hb7⟩
  have B7 : Below w.heap.size w w7 := B6.trans (hb7.mono B6.size)
  have hA7 : 0 < l.length → ∃ g, a2 = some ⟨g, 0, none⟩ ∧ g < w7.heap.size ∧ MarkedT w7 g 1 l.length := fun hp => by
    obtain ⟨g, e, h1, h2⟩ := hA6 hp
    exact ⟨g, e, Nat.lt_of_lt_of_le h1 hb7.size, h2.stays hb7 h1⟩
  clear hA6
  go_wp2_with fail
  refine (heldTokS_any a2 l.length c2 1 w7 (by omega) (by omega) (by omega) hA7).mono ?_
  rintro e w8 ⟨rfl, hb8⟩
  rw [HM.out]
  go_wp2
  go_ret
  exact ⟨rfl, B7.trans (hb8.mono B7.size)⟩

theorem ownLex : ownKnob Try.prog.godebug = none := by kernel_rfl
theorem laidOutLex : laidOutB Try.prog = true := by kernel_rfl

set_option maxRecDepth 100000 in
theorem liftedLex (os : Os) (started : os.Started) (H : Type) (enc : TypeId × Value → H) :
    ReturnsInHanded {} Try.checked os 7 .any (Rows.fnExactLexSpec.pre6 enc Try.prog Try.f7 Rows.fnExactLexRow.domain false) (Rows.fnExactLexSpec.post enc Try.prog Try.f7 false true false false) := by
  refine returnsInHanded_of_change (C := Try.checked) ownLex started (by kernel_rfl) Try.func7
    (ChangeSpec.witness6 (enc := enc) (C := Try.checked) false ⟨#[], #[.string ⟨#[97]⟩], []⟩ 8 (by kernel_rfl) (by kernel_rfl) (by kernel_rfl) (by kernel_rfl)) ?_
  intro W base args ds gs before hval0 hW hcnd _
  have hval : ∀ (j : Nat) t v, Try.f7.params[j]? = some t → args[j]? = some v → Value.okWide Try.prog W .any base t v := hval0
  have hW' := hW
  obtain ⟨p, q, hA0, hV, rfl, hfz, hnd⟩ := hW
  have hA : DataW.TrodAll enc Try.prog W 0 (fun _ => true) true Try.f7.params.toList args.toList ds p := hA0
  rw [Try.params7] at hA hval
  obtain ⟨v0, vs0, d0, ds0, p0, q0, hargs, rfl, rfl, h0, r0⟩ := trodAll_cons hA
  obtain ⟨rfl, rfl, rfl⟩ := trodAll_nil r0
  obtain rfl : args = #[v0] := by cases args; simp_all
  obtain ⟨rfl, rfl⟩ := trodVars_none hV
  obtain ⟨s, rfl, rfl, rfl, hs⟩ := open_string Try.underlying9 (hval 0 9 v0 rfl rfl) h0
  clear hA0 hval0
  refine (exactLex_any s W).mono fun e W' ⟨he, bel⟩ => ?_
  subst he
  exact ⟨_, rfl, _, _, _, [], _, [], hW', trodAll_mk1 (shut_bool Try.underlying4 _), (trodAll_cons_mk (shut_string Try.underlying9 hs) trodAll_mk0), rfl, bel.frame _, fun h => by cases h⟩

theorem exactLex_holds : Rows.FnExactLexSaid :=
  OpenClaim.holds_of_wide 7 Try.f7 rfl rfl rfl rfl rfl rfl rfl ⟨rfl, rfl, rfl, rfl, rfl⟩ rfl rfl rfl rfl rfl (by kernel_rfl) Try.func7 (by kernel_rfl)
    (of_decide_eq_true (by kernel_rfl)) (by unfold Func.isWrapper; first | (rw [if_pos (by decide +kernel)]; kernel_rfl) | (rw [if_neg (by decide +kernel)]; exact ⟨rfl, rfl⟩))
    (fun os started H enc _ => liftedLex os started H enc)

#print axioms exactLex_holds
end Go.Proofs.Ytahbfmhdkcoboal
