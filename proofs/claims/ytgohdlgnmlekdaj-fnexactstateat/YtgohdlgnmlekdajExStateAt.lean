/- For every store and hour, the exact law of StateAt returns true and the store reads afterwards as it read before. -/
import Derived.Test.YtgohdlgnmlekdajState2
import Derived.Test.YtgohdlgnmlekdajRows2
import Derived.Test.YtgohdlgnmlekdajOpen
import Derived.ChangeOld
namespace Go.Proofs.Ytgohdlgnmlekdaj
open Go.ChangeShapes Go.WideShapes Go.ChangeAt Go.RowKit Go.Sort
set_option linter.unusedVariables false
set_option maxRecDepth 100000
attribute [local go_sem ↓] Go.wp_at_zero Go.wp_at_succ

theorem OwnR.later {base : Nat} {w w' : World} {v : Value} {l : List Rw} (h : OwnR base w v l) (hb : Below w.heap.size w w') : OwnR base w' v l := h.stays hb

/-- The box of the argument and the box of a copy. -/
def Box2 (w : World) (a : Option Addr) (n cap : Nat) (b4 : Nat) (a4 : Option Addr) (c4 : Nat) (x : World) : Prop := Below w.heap.size w x ∧ x.cell? ⟨w.heap.size, 0, none⟩ = some (.slice a n cap) ∧ x.cell? ⟨b4, 0, none⟩ = some (.slice a4 n c4)
theorem Box2.kept {w x y : World} {a a4 : Option Addr} {n cap b4 c4 : Nat} (h : Box2 w a n cap b4 a4 c4 x) (hb : Below x.heap.size x y) : Box2 w a n cap b4 a4 c4 y :=
  ⟨h.1.trans (hb.mono h.1.size), cell_stays hb h.2.1, cell_stays hb h.2.2⟩

set_option maxHeartbeats 2000000 in
theorem exactStateAt_any (v : Value) (l : List Ch) (h : Int) (w : World) {lo hi : Nat} (hl : ChainsAt lo hi w v l) :
    Calls Try.prog 6 #[.agg #[v], .int .i64 h] w fun e w' => e = .returned (.bool true) ∧ Below w.heap.size w w' := by
  obtain ⟨a, cap, hv⟩ : ∃ a cap, v = .slice a l.length cap := by obtain ⟨a, cap, h1, _⟩ := hl; exact ⟨a, cap, h1⟩
  subst hv
  have b0 : Below w.heap.size w (w.alloc (Obj.cells #[Value.slice a l.length cap] 24)) := (Below.refl _ _).alloc (Nat.le_refl _) _
  have p0 : (w.alloc (Obj.cells #[Value.slice a l.length cap] 24)).cell? ⟨w.heap.size, 0, none⟩ = some (.slice a l.length cap) := by simp [go_sem]
  go_enter Try.func6, Try.ntmps6
  go_wp2_with fail
  refine (szStore_any _ l _ (hl.stays b0) _ (by omega) (by omega)).mono ?_
  rintro e w1 ⟨q, rfl, hq1, hq2, hb1⟩
  have b1 := b0.trans (hb1.mono b0.size)
  have p1 := cell_stays hb1 p0
  clear b0 p0 hb1
  by_cases hneg : q < 0
  · go_wp2
    go_ret
    exact ⟨rfl, b1⟩
  have hs := hq2 (by omega)
  have hn := hs.1
  clear hq2
  go_wp2_with fail
  refine (toStore_any _ l _ (hl.stays b1) hs).mono ?_
  rintro e w2 ⟨a2, c2, rfl, hv2, hb2⟩
  have b2 := b1.trans (hb2.mono b1.size)
  have p2 := cell_stays hb2 p1
  clear b1 p1 hb2
  go_wp2_with fail
  refine (specStateAt_any _ l h _ hv2).mono ?_
  rintro e w3 ⟨rs, v3, rfl, hans, hr3, hb3⟩
  have b3 := b2.trans (hb3.mono b2.size)
  have p3 := cell_stays hb3 p2
  have hlen := hans.len
  have hws : w.heap.size < w3.heap.size := cell_lt p3
  clear b2 p2 hb3 hv2
  go_wp2_with fail
  refine (toStore_own _ l _ (hl.stays b3) hs).mono ?_
  rintro e w4 ⟨b4, Bs, rfl, ho4, hb4⟩
  have b4' := b3.trans (hb4.mono b3.size)
  have p4 := cell_stays hb4 p3
  go_wp2_with fail
  have hA : Below w4.heap.size w4 (w4.alloc (Obj.cells #[Value.slice (some ⟨b4, 0, none⟩) l.length l.length] 31)) := (Below.refl _ _).alloc (Nat.le_refl _) _
  refine (implStateAt_any _ l h _ ((ho4.stays hA).chains hs)).mono ?_
  rintro e w5 ⟨rs', v5, rfl, hans', hr5, hb5⟩
  obtain rfl := hans.one hans'
  have hA5 := hA.trans (hb5.mono hA.size)
  have S5 : Box2 w a l.length cap w4.heap.size (some ⟨b4, 0, none⟩) l.length w5 := ⟨b4'.trans (hA5.mono b4'.size), cell_stays hA5 p4, cell_stays hb5 (by simp [go_sem])⟩
  have ho5 := ho4.stays hA5
  have t5 := hb4.trans (hA5.mono hb4.size)
  simp only [World.size_alloc] at hr5
  have hz45 : w4.heap.size < w5.heap.size := cell_lt S5.2.2
  clear hA hA5 hb5 p4 p3 b4' ho4 hans'
  go_wp2_with fail
  refine (eqRowS_same _ _ rs _ hr5 (hr3.later t5) (by omega)).mono ?_
  rintro e w6 ⟨rfl, hb6⟩
  have S6 := S5.kept hb6
  have ho6 := ho5.stays hb6
  have t6 := t5.trans (hb6.mono t5.size)
  have hr6 := hr5.stays hb6
  clear S5 ho5 t5 hr5
  go_wp2_with fail
  go_region_held3 (fun x => Below w.heap.size w x ∧ x.cell? ⟨w.heap.size, 0, none⟩ = some (.slice a l.length cap) ∧ x.cell? ⟨w4.heap.size, 0, none⟩ = some (.slice (some ⟨b4, 0, none⟩) l.length l.length))
    (first | assumption | exact S8 | exact S7 | exact S6.kept (Below.refl _ _).drew)
    (first | (go_at_call 11; refine (toStore_any _ l _ (hl.stays S6.1.drew) hs).mono ?_; rintro e w7 ⟨a7, c7, rfl, hv7, hb7⟩; have S7 : Box2 w a l.length cap w4.heap.size (some ⟨b4, 0, none⟩) l.length w7 := (S6.kept (Below.refl _ _).drew).kept hb7; have t67 := (Below.refl w6.heap.size w6).drew.trans hb7) | (go_at_call 14; refine (eqStore_same _ _ l _ ((ho6.stays t67).chains hs) hv7).mono ?_; rintro e w8 ⟨rfl, hb8⟩; have S8 : Box2 w a l.length cap w4.heap.size (some ⟨b4, 0, none⟩) l.length w8 := S7.kept hb8; have t68 := t67.trans (hb8.mono t67.size)))
  have ho8 := ho6.stays t68
  have t8 := t6.trans (t68.mono t6.size)
  have hr8 := hr6.stays t68
  have hz48 : w4.heap.size < w8.heap.size := cell_lt S8.2.2
  clear S6 S7 ho6 t6 hr6 hv7 t67 hb7 hb8
  go_wp2_with fail
  refine (markStore_any b4 Bs l l.length 1 _ ho8 hs (by omega) (by omega)).mono ?_
  rintro e w9 ⟨rfl, hk9, h91, h92, h93, hz9, _⟩
  have hsz3 := hb4.size
  have t89 : Below w3.heap.size w8 w9 := ⟨h91, h92, h93, hz9, fun k hk => hk9 k (by omega) (by omega)⟩
  have b9 : Below w.heap.size w w9 := S8.1.trans (t89.mono b3.size)
  have t9 := t8.trans t89
  have p9 : w9.cell? ⟨w.heap.size, 0, none⟩ = some (.slice a l.length cap) := by rw [t89.cell hws]; exact S8.2.1
  have hr9 : OwnR (w4.heap.size + 1) w9 v5 rs := hr8.keep fun k h1 h2 => hk9 k (by omega) h2
  have hr39 := hr3.later t9
  clear S8 ho8 t8 hr8 t89 h91 h92 h93 hk9
  have hmb := mk_bound hs (Nat.le_refl _)
  go_wp2_with fail
  refine (eqRowS_same _ _ rs _ hr9 hr39 (by omega)).mono ?_
  rintro e w10 ⟨rfl, hb10⟩
  have b10 := b9.trans (hb10.mono b9.size)
  have t10 := t9.trans (hb10.mono t9.size)
  have p10 := cell_stays hb10 p9
  have hr10 := hr9.stays hb10
  clear b9 t9 p9 hr9 hr39 hb10
  go_wp2_with fail
  refine (markRowS_any _ rs 1 _ hr10 (by omega) (by omega)).mono ?_
  rintro e w11 ⟨rfl, hw11, hm11⟩
  have u11 : Below (w4.heap.size + 1) w10 w11 := hw11.below fun k hk => hk
  have b11 := b10.trans (u11.mono (by omega))
  have t11 := t10.trans (u11.mono (by omega))
  have p11 : w11.cell? ⟨w.heap.size, 0, none⟩ = some (.slice a l.length cap) := by rw [u11.cell (by show w.heap.size < _; omega)]; exact p10
  clear b10 t10 p10 hr10 hw11 u11
  go_wp2_with fail
  refine (heldRowS_any _ rs.length 1 _ hm11 (by omega) (by omega)).mono ?_
  rintro e w12 ⟨rfl, rfl⟩
  go_wp2_with fail
  refine (toStore_any _ l _ (hl.stays b11) hs).mono ?_
  rintro e w13 ⟨a13, c13, rfl, hv13, hb13⟩
  have b13 := b11.trans (hb13.mono b11.size)
  have t13 := t11.trans (hb13.mono t11.size)
  have hm13 := hm11.keep (base := 0) hb13
  clear b11 t11 hm11 hb13 p11
  go_wp2_with fail
  refine (implStateAt_any _ l h _ hv13).mono ?_
  rintro e w14 ⟨rs2, v14, rfl, hans2, hr14, hb14⟩
  obtain rfl := hans.one hans2
  have b14 := b13.trans (hb14.mono b13.size)
  have t14 := t13.trans (hb14.mono t13.size)
  have hm14 := hm13.keep (base := 0) hb14
  clear b13 t13 hm13 hb14 hv13
  go_wp2_with fail
  refine (eqRowS_same _ _ rs _ hr14 (hr3.later t14) (by omega)).mono ?_
  rintro e w15 ⟨rfl, hb15⟩
  have b15 := b14.trans (hb15.mono b14.size)
  have hm15 := hm14.keep (base := 0) hb15
  clear hr14 hr3 t14 b14 hm14 hb15
  go_wp2_with fail
  refine (heldRowS_any _ rs.length 1 _ hm15 (by omega) (by omega)).mono ?_
  rintro e w16 ⟨rfl, rfl⟩
  go_wp2
  go_ret
  exact ⟨rfl, b15⟩

/-! ### The row -/

theorem own : ownKnob Try.prog.godebug = none := by kernel_rfl
theorem laidOut : laidOutB Try.prog = true := by kernel_rfl

theorem liftedStateAt (os : Os) (started : os.Started) (H : Type) (enc : TypeId × Value → H) :
    ReturnsInHanded {} Try.checked os 6 .any (Rows.fnExactStateAtSpec.pre6 enc Try.prog Try.f6 Rows.fnExactStateAtRow.domain false) (Rows.fnExactStateAtSpec.post enc Try.prog Try.f6 false true false false) := by
  refine returnsInHanded_of_change (C := Try.checked) own started (by kernel_rfl) Try.func6
    (ChangeSpec.witness6 (enc := enc) (C := Try.checked) false ⟨#[], #[.agg #[.slice none 0 0], .int .i64 0], []⟩ 8 (by kernel_rfl) (by kernel_rfl) (by kernel_rfl) (by kernel_rfl)) ?_
  intro W base args ds gs before hval0 hW hcnd _
  have hval : ∀ (j : Nat) t v, Try.f6.params[j]? = some t → args[j]? = some v → Value.okWide Try.prog W .any base t v := hval0
  have hW' := hW
  obtain ⟨p, q, hA0, hV, rfl, hfz, hnd⟩ := hW
  have hA : DataW.TrodAll enc Try.prog W 0 (fun _ => true) true Try.f6.params.toList args.toList ds p := hA0
  rw [Try.params6] at hA hval
  obtain ⟨v0, vs0, d0, ds0, p0, q0, hargs, rfl, rfl, h0, r0⟩ := trodAll_cons hA
  obtain ⟨v1, vs1, d1, ds1, p1, q1, rfl, rfl, rfl, h1, r1⟩ := trodAll_cons r0
  obtain ⟨rfl, rfl, rfl⟩ := trodAll_nil r1
  obtain rfl : args = #[v0, v1] := by cases args; simp_all
  obtain ⟨rfl, rfl⟩ := trodVars_none hV
  have k0 := h0
  have lt0 : ∀ x ∈ p0, x.block < W.heap.size := by obtain ⟨m, hm⟩ := k0; exact DataW.trod_lt m _ _ _ hm
  obtain ⟨v, l, rfl, hl, hw⟩ := open_store (hval 0 24 v0 rfl rfl) h0
  obtain ⟨hr, rfl, rfl, rfl, wh⟩ := open_int Try.underlying3 (hval 1 3 v1 rfl rfl) h1
  clear hA0 hval0
  refine (exactStateAt_any v l hr W hl).mono fun e W' ⟨he, bel⟩ => ?_
  subst he
  exact ⟨_, rfl, _, _, _, [], _, [], hW', trodAll_mk1 (shut_bool Try.underlying4 _), trodAll_cons_mk (Below.trod laidOut (by kernel_rfl) (of_decide_eq_true (by kernel_rfl)) k0 bel lt0) (trodAll_cons_mk (shut_int Try.underlying3 wh) trodAll_mk0), rfl, bel.frame _, fun h => by cases h⟩

theorem exactStateAt_holds : Rows.FnExactStateAtSaid :=
  OpenClaim.holds_of_wide 6 Try.f6 rfl rfl rfl rfl rfl rfl rfl ⟨rfl, rfl, rfl, rfl, rfl⟩ rfl rfl rfl rfl rfl (by kernel_rfl) Try.func6 (by kernel_rfl)
    (of_decide_eq_true (by kernel_rfl)) (by unfold Func.isWrapper; first | (rw [if_pos (by decide +kernel)]; kernel_rfl) | (rw [if_neg (by decide +kernel)]; exact ⟨rfl, rfl⟩))
    (fun os started H enc _ => liftedStateAt os started H enc)

#print axioms exactStateAt_holds
end Go.Proofs.Ytgohdlgnmlekdaj
