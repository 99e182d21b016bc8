/- For every text, the exact law of Parse returns true: the program reads a text as the specification does, every field; what it answers is its own memory, behind another call too. -/
import Derived.Test.YtkdlgglikhbnkalPConv
import Derived.Test.YtkdlgglikhbnkalSParse
import Derived.ChangeOld
import Derived.ChangeMaps5
namespace Go.Proofs.Ytkdlgglikhbnkal
open Go.ChangeShapes Go.WideShapes Go.ChangeAt Go.RowKit
open Go.ChangeMaps (open_string shut_string)
set_option linter.unusedVariables false
set_option maxRecDepth 100000
attribute [local go_sem ↓] Go.wp_at_zero Go.wp_at_succ

set_option maxHeartbeats 8000000 in
theorem exactParse_any (s : ByteArray) (w : World) :
    Calls Try.prog 8 #[.string s] w fun e w' => e = .returned (.bool true) ∧ Below w.heap.size w w' := by
  by_cases hn : 1048576 < s.size
  · go_enter Try.func8, Try.ntmps8
    go_wp2
    go_ret
    exact ⟨rfl, Below.refl _ _⟩
  have hF := (parseF_forest s).lengths
  have h8 := parseF_small s
  have h6 := parseF_psum s (lexF_length s)
  have hI := implParse_any s
  have hSp := specParse_any s w (by omega)
  generalize (parseF s).1.1 = ns at *
  generalize (parseF s).1.2 = ps at *
  generalize (parseF s).2 = kk at *
  go_enter Try.func8, Try.ntmps8
  go_wp2_with fail
  refine hSp.mono ?_
  rintro e w1 ⟨na, nc, q, pa, pc, p, rfl, hN, hqn, hP, hpn, hd, hb1⟩
  have V1 : SetAt w.heap.size w1.heap.size w1 (.slice na q.length nc) (.slice pa p.length pc) ns ps := ⟨by rw [← hqn]; exact nodesAt_own hN, by rw [← hpn]; exact procsAt_own hP⟩
  clear hN hP hd hqn hpn hSp
  have bA : Below w1.heap.size w1 (w1.alloc (Obj.cells #[.slice na q.length nc, .slice pa p.length pc] 34)) := (Below.refl _ _).alloc (Nat.le_refl _) _
  have VA := V1.stays bA
  have y0 : (w1.alloc (Obj.cells #[.slice na q.length nc, .slice pa p.length pc] 34)).cell? ⟨w1.heap.size, 0, none⟩ = some (.slice na q.length nc) := by simp [go_sem]
  have y1 : (w1.alloc (Obj.cells #[.slice na q.length nc, .slice pa p.length pc] 34)).cell? ⟨w1.heap.size, 1, none⟩ = some (.slice pa p.length pc) := by simp [go_sem]
  have zA : (w1.alloc (Obj.cells #[.slice na q.length nc, .slice pa p.length pc] 34)).heap.size = w1.heap.size + 1 := by simp
  have BA := hb1.trans (bA.mono hb1.size)
  go_wp2_with fail
  obtain ⟨B1, hB1⟩ : ∃ b, b = w1.heap.size := ⟨_, rfl⟩
  rw [← hB1] at y0 y1 zA VA ⊢
  clear hB1 bA V1
  generalize w1.alloc (Obj.cells #[.slice na q.length nc, .slice pa p.length pc] 34) = wA at *
  refine (hI wA (by omega)).mono ?_
  rintro e w2 ⟨na2, nc2, q2, pa2, pc2, p2, rfl, hN2, hqn2, hP2, hpn2, hd2, hb2⟩
  have W2 : SetAt wA.heap.size w2.heap.size w2 (.slice na2 q2.length nc2) (.slice pa2 p2.length pc2) ns ps := ⟨by rw [← hqn2]; exact nodesAt_own hN2, by rw [← hpn2]; exact procsAt_own hP2⟩
  have V2 := VA.stays hb2
  have x0 := cell_stays hb2 y0
  have x1 := cell_stays hb2 y1
  have B2 := BA.trans (hb2.mono BA.size)
  have zA2 := hb2.size
  have bC : Below w2.heap.size w2 (w2.alloc (Obj.cells #[.slice na2 q2.length nc2, .slice pa2 p2.length pc2] 34)) := (Below.refl _ _).alloc (Nat.le_refl _) _
  have hq2 : q2.length ≤ 800 := by rw [← qnds_length, hqn2]; exact h8
  have hfl : (flatK (qnds q2)).length ≤ 800 := by rw [hqn2]; omega
  have hbn : ∀ i, i ≤ q2.length → nk q2 i ≤ 10000 := fun i hi => by have := nk_le q2 hi; omega
  have hps : psum (qprs p2) ≤ 6000 := by rw [hpn2]; exact h6
  have hbp : ∀ i, i ≤ p2.length → pk p2 i ≤ 10000 := fun i hi => by have := pk_le p2 hi; omega
  have hp2 : p2.length ≤ 6000 := by have := psum_len (qprs p2); rw [qprs_length] at this; omega
  have hlt2 : ∀ g, (((Value.slice na2 q2.length nc2).ownBlock = some g ∨ ∃ i, i < q2.length ∧ (qnAt q2 i).2.ownBlock = some g) ∨ pown (.slice pa2 p2.length pc2) p2 g) → wA.heap.size ≤ g ∧ g < w2.heap.size := fun g hg => by
    rcases hg with (hg | ⟨i, hi, hg⟩) | hg
    · exact own_lt hN2.row hg
    · exact own_lt (hN2.lists i hi) hg
    · exact hP2.lt hg
  have hNC := hN2.stays bC
  have hPC := hP2.keep (w' := (w2.alloc (Obj.cells #[.slice na2 q2.length nc2, .slice pa2 p2.length pc2] 34))) fun g _ hl => bC.block g hl
  have WC := W2.stays bC
  have VC := V2.stays bC
  have c0 := cell_stays bC x0
  have c1 := cell_stays bC x1
  have d0 : (w2.alloc (Obj.cells #[.slice na2 q2.length nc2, .slice pa2 p2.length pc2] 34)).cell? ⟨w2.heap.size, 0, none⟩ = some (.slice na2 q2.length nc2) := by simp [go_sem]
  have d1 : (w2.alloc (Obj.cells #[.slice na2 q2.length nc2, .slice pa2 p2.length pc2] 34)).cell? ⟨w2.heap.size, 1, none⟩ = some (.slice pa2 p2.length pc2) := by simp [go_sem]
  have BC := B2.trans (bC.mono B2.size)
  have zC : w2.heap.size < (w2.alloc (Obj.cells #[.slice na2 q2.length nc2, .slice pa2 p2.length pc2] 34)).heap.size := by simp
  clear hqn2 hpn2 hN2 hP2 W2 V2 x0 x1 y0 y1 VA hb2 hfl hps hF h8 h6
  go_wp2_with fail
  obtain ⟨B2', hB2'⟩ : ∃ b, b = w2.heap.size := ⟨_, rfl⟩
  rw [← hB2'] at d0 d1 zC zA2 WC hlt2 ⊢
  clear hB2' bC
  generalize w2.alloc (Obj.cells #[.slice na2 q2.length nc2, .slice pa2 p2.length pc2] 34) = w3 at *
  refine (eqSet_same _ _ _ _ ns ps w3 WC VC).mono ?_
  rintro e w4 ⟨rfl, hb4⟩
  have hN4 := hNC.stays hb4
  have hP4 := hPC.keep (w' := w4) fun g _ hl => hb4.block g hl
  have V4 := VC.stays hb4
  have e0 := cell_stays hb4 c0
  have e1 := cell_stays hb4 c1
  have g0 := cell_stays hb4 d0
  have g1 := cell_stays hb4 d1
  have B4 := BC.trans (hb4.mono BC.size)
  have z4 := hb4.size
  clear hNC hPC WC VC c0 c1 d0 d1
  go_wp2_with fail
  refine (markSet_any (base := wA.heap.size) na2 nc2 q2 pa2 pc2 p2 w4 hN4 hP4 hd2 hq2 hbn hp2 hbp (by omega)).mono ?_
  rintro e w5 ⟨rfl, hW5, hM5⟩
  have hb5 : Below wA.heap.size w4 w5 := hW5.below (fun g hg => (hlt2 g hg).1) (by omega)
  have V5 : SetAt w.heap.size B1 w5 (.slice na q.length nc) (.slice pa p.length pc) ns ps := ⟨V4.1.keep fun b _ hb _ => hb5.block b (by omega), V4.2.keep fun b _ hb _ => hb5.block b (by omega)⟩
  have k0 := cell_same (hb5.block B1 (by omega)) e0
  have k1 := cell_same (hb5.block B1 (by omega)) e1
  have kB : w5.heap[B2']? = w4.heap[B2']? := hW5.block B2' (by omega) (fun hg => by have := (hlt2 _ hg).2; omega)
  have l0 := cell_same kB g0
  have l1 := cell_same kB g1
  have B5 := B4.trans (hb5.mono (by have := BA.size; omega))
  have z5 := hb5.size
  clear V4 e0 e1 g0 g1 hN4 hP4 hd2 hW5 hlt2 kB hb5
  have hM8 : 1 + nk q2 q2.length + pk p2 p2.length ≤ 20001 := by have := hbn _ (Nat.le_refl _); have := hbp _ (Nat.le_refl _); omega
  have hheld := fun (x : World) (hx : MSet x na2 q2 pa2 p2 1) => heldSet_any na2 nc2 q2 pa2 pc2 p2 x hx hq2 hbn hp2 hbp
  generalize 1 + nk q2 q2.length + pk p2 p2.length = M at hM8 hheld ⊢
  have hnn : ¬ (M : Int) < 0 := by omega
  clear hbn hbp
  go_wp2_with fail
  refine (hheld w5 hM5).mono ?_
  rintro e w6 ⟨rfl, hb6⟩
  have hM6 := hM5.stays hb6
  have V6 := V5.stays hb6
  replace k0 := cell_stays hb6 k0
  replace k1 := cell_stays hb6 k1
  replace l0 := cell_stays hb6 l0
  replace l1 := cell_stays hb6 l1
  have B6 := B5.trans (hb6.mono B5.size)
  clear V5 hM5
  go_wp2_with fail
  refine (hI w6 (by omega)).mono ?_
  rintro e w7 ⟨na7, nc7, q7, pa7, pc7, p7, rfl, hN7, hqn7, hP7, hpn7, hd7, hb7⟩
  have W7 : SetAt w6.heap.size w7.heap.size w7 (.slice na7 q7.length nc7) (.slice pa7 p7.length pc7) ns ps := ⟨by rw [← hqn7]; exact nodesAt_own hN7, by rw [← hpn7]; exact procsAt_own hP7⟩
  have bD : Below w7.heap.size w7 (w7.alloc (Obj.cells #[.slice na7 q7.length nc7, .slice pa7 p7.length pc7] 34)) := (Below.refl _ _).alloc (Nat.le_refl _) _
  have b78 := hb7.trans (bD.mono hb7.size)
  have W8 := W7.stays bD
  have V8 := V6.stays b78
  have hM8' := hM6.stays b78
  replace k0 := cell_stays b78 k0
  replace k1 := cell_stays b78 k1
  replace l0 := cell_stays b78 l0
  replace l1 := cell_stays b78 l1
  have B8 := B6.trans (b78.mono B6.size)
  have o0 : (w7.alloc (Obj.cells #[.slice na7 q7.length nc7, .slice pa7 p7.length pc7] 34)).cell? ⟨w7.heap.size, 0, none⟩ = some (.slice na7 q7.length nc7) := by simp [go_sem]
  have o1 : (w7.alloc (Obj.cells #[.slice na7 q7.length nc7, .slice pa7 p7.length pc7] 34)).cell? ⟨w7.heap.size, 1, none⟩ = some (.slice pa7 p7.length pc7) := by simp [go_sem]
  clear hN7 hP7 hqn7 hpn7 W7 V6 hM6 hd7
  go_wp2_with fail
  generalize w7.alloc (Obj.cells #[.slice na7 q7.length nc7, .slice pa7 p7.length pc7] 34) = w8 at *
  refine (eqSet_same _ _ _ _ ns ps w8 W8 V8).mono ?_
  rintro e w9 ⟨rfl, hb9⟩
  have hM9 := hM8'.stays hb9
  replace l0 := cell_stays hb9 l0
  replace l1 := cell_stays hb9 l1
  have B9 := B8.trans (hb9.mono B8.size)
  clear hM8' W8 V8 k0 k1 o0 o1
  go_wp2_with fail
  refine (hheld w9 hM9).mono ?_
  rintro e w10 ⟨rfl, hb10⟩
  go_wp2
  go_ret
  exact ⟨rfl, B9.trans (hb10.mono B9.size)⟩

theorem ownParse : ownKnob Try.prog.godebug = none := by kernel_rfl
theorem laidOutParse : laidOutB Try.prog = true := by kernel_rfl

set_option maxRecDepth 100000 in
theorem liftedParse (os : Os) (started : os.Started) (H : Type) (enc : TypeId × Value → H) :
    ReturnsInHanded {} Try.checked os 8 .any (Rows.fnExactParseSpec.pre6 enc Try.prog Try.f8 Rows.fnExactParseRow.domain false) (Rows.fnExactParseSpec.post enc Try.prog Try.f8 false true false false) := by
  refine returnsInHanded_of_change (C := Try.checked) ownParse started (by kernel_rfl) Try.func8
    (ChangeSpec.witness6 (enc := enc) (C := Try.checked) false ⟨#[], #[.string ⟨#[97]⟩], []⟩ 8 (by kernel_rfl) (by kernel_rfl) (by kernel_rfl) (by kernel_rfl)) ?_
  intro W base args ds gs before hval0 hW hcnd _
  have hval : ∀ (j : Nat) t v, Try.f8.params[j]? = some t → args[j]? = some v → Value.okWide Try.prog W .any base t v := hval0
  have hW' := hW
  obtain ⟨p, q, hA0, hV, rfl, hfz, hnd⟩ := hW
  have hA : DataW.TrodAll enc Try.prog W 0 (fun _ => true) true Try.f8.params.toList args.toList ds p := hA0
  rw [Try.params8] at hA hval
  obtain ⟨v0, vs0, d0, ds0, p0, q0, hargs, rfl, rfl, h0, r0⟩ := trodAll_cons hA
  obtain ⟨rfl, rfl, rfl⟩ := trodAll_nil r0
  obtain rfl : args = #[v0] := by cases args; simp_all
  obtain ⟨rfl, rfl⟩ := trodVars_none hV
  obtain ⟨s, rfl, rfl, rfl, hs⟩ := open_string Try.underlying9 (hval 0 9 v0 rfl rfl) h0
  clear hA0 hval0
  refine (exactParse_any s W).mono fun e W' ⟨he, bel⟩ => ?_
  subst he
  exact ⟨_, rfl, _, _, _, [], _, [], hW', trodAll_mk1 (shut_bool Try.underlying4 _), (trodAll_cons_mk (shut_string Try.underlying9 hs) trodAll_mk0), rfl, bel.frame _, fun h => by cases h⟩

theorem exactParse_holds : Rows.FnExactParseSaid :=
  OpenClaim.holds_of_wide 8 Try.f8 rfl rfl rfl rfl rfl rfl rfl ⟨rfl, rfl, rfl, rfl, rfl⟩ rfl rfl rfl rfl rfl (by kernel_rfl) Try.func8 (by kernel_rfl)
    (of_decide_eq_true (by kernel_rfl)) (by unfold Func.isWrapper; first | (rw [if_pos (by decide +kernel)]; kernel_rfl) | (rw [if_neg (by decide +kernel)]; exact ⟨rfl, rfl⟩))
    (fun os started H enc _ => liftedParse os started H enc)

#print axioms exactParse_holds
end Go.Proofs.Ytkdlgglikhbnkal
