/- Both CurOk: is it a run under way? -/
import Derived.Test.YtjikmpdgednlaaaC3
import Derived.Test.YtjikmpdgednlaaaC5
import Derived.Test.YtjikmpdgednlaaaV1a
import Derived.Test.YtjikmpdgednlaaaXTgt2
import Derived.Test.YtjikmpdgednlaaaIProcs
namespace Go.Proofs.Ytjikmpdgednlaaa
open Go.ChangeShapes Go.WideShapes Go.ChangeAt Go.RowKit
set_option linter.unusedVariables false
set_option maxRecDepth 100000
attribute [local go_sem ↓] Go.wp_at_zero Go.wp_at_succ

/-- A run under way of that procedure, with these variables and frames. -/
def curP (l : List Nd) (p : List Pr) (pk : Int) (vs : List Va) (fs : List Vr) : Prop :=
  targetF l p = true ∧ 0 ≤ pk ∧ pk < (p.length : Int) ∧ varsOk vs ∧ stackP l (prAt p pk.toNat).body fs

theorem target_tree {l : List Nd} {p : List Pr} (h : targetF l p = true) : TreeQ l p := by
  rw [target_eq] at h
  simp only [Bool.and_eq_true] at h
  exact treeI_iff.1 h.1

theorem hasProc_any (v u : Value) (l : List Nd) (p : List Pr) (k : Int) (w : World) {lo hi : Nat} (h : SetAt lo hi w v u l p) :
    Calls Try.prog 24 #[.agg #[v, u], .int .i64 k] w fun e w' => e = .returned (.bool (decide (0 ≤ k ∧ k < (p.length : Int)))) ∧ Below w.heap.size w w' := by
  obtain ⟨a, c, b, d, rfl, rfl⟩ := h.forms
  obtain ⟨R, hR⟩ : ∃ x, decide (0 ≤ k ∧ k < (p.length : Int)) = x := ⟨_, rfl⟩
  have HR : Hid (decide (0 ≤ k ∧ k < (p.length : Int)) = R) := hR
  rw [hR]
  clear hR
  by_cases h0 : 0 ≤ k
  · by_cases h1 : k < (p.length : Int)
    · go_enter Try.func24, Try.ntmps24
      go_wp2
      go_ret
      exact ⟨by rw [← HR.out, decide_eq_true (And.intro h0 h1)]; rfl, (Below.refl _ _).alloc (Nat.le_refl _) _⟩
    · go_enter Try.func24, Try.ntmps24
      go_wp2
      go_ret
      exact ⟨by rw [← HR.out, decide_eq_false (fun h => by omega)]; rfl, (Below.refl _ _).alloc (Nat.le_refl _) _⟩
  · go_enter Try.func24, Try.ntmps24
    go_wp2
    go_ret
    exact ⟨by rw [← HR.out, decide_eq_false (fun h => by omega)]; rfl, (Below.refl _ _).alloc (Nat.le_refl _) _⟩

set_option maxHeartbeats 4000000 in
theorem implCurOk_any (v u vv fv : Value) (l : List Nd) (p : List Pr) (pk : Int) (vs : List Va) (fs : List Vr) (w : World) {lo hi lo1 hi1 lo2 hi2 : Nat} (h : SetAt lo hi w v u l p) (hV : VarsAt lo1 hi1 w vv vs) (hF : VersAt lo2 hi2 w fv fs) (hs : sumS l + sumP p ≤ 4611686018427387904) (hvn : vs.length ≤ 1048576) :
    Calls Try.prog 9 #[.agg #[v, u], .agg #[.int .i64 pk, vv, fv]] w fun e w' => Says e (curP l p pk vs fs) ∧ Below w.heap.size w w' := by
  obtain ⟨P, hP⟩ : ∃ P : Prop, curP l p pk vs fs = P := ⟨_, rfl⟩
  rw [hP]
  have HP : Hid (P ↔ curP l p pk vs fs) := by show _ ↔ _; rw [hP]
  clear hP
  obtain ⟨a, c, b, d, rfl, rfl⟩ := h.forms
  obtain ⟨va, vc, hv⟩ : ∃ a cap, vv = .slice a vs.length cap := by obtain ⟨a, cap, h1, _⟩ := hV; exact ⟨a, cap, h1⟩
  obtain ⟨fa, fc, hf⟩ : ∃ a cap, fv = .slice a fs.length cap := by obtain ⟨a, cap, h1, _⟩ := hF; exact ⟨a, cap, h1⟩
  subst hv hf
  have b0 : Below w.heap.size w ((w.alloc (Obj.cells #[Value.slice a l.length c, Value.slice b p.length d] 36)).alloc (Obj.cells #[.int .i64 pk, Value.slice va vs.length vc, Value.slice fa fs.length fc] 41)) := ((Below.refl _ _).alloc (Nat.le_refl _) _).alloc (by simp) _
  have x0 : ((w.alloc (Obj.cells #[Value.slice a l.length c, Value.slice b p.length d] 36)).alloc (Obj.cells #[.int .i64 pk, Value.slice va vs.length vc, Value.slice fa fs.length fc] 41)).cell? ⟨w.heap.size, 0, none⟩ = some (.slice a l.length c) := by simp [go_sem]
  have x1 : ((w.alloc (Obj.cells #[Value.slice a l.length c, Value.slice b p.length d] 36)).alloc (Obj.cells #[.int .i64 pk, Value.slice va vs.length vc, Value.slice fa fs.length fc] 41)).cell? ⟨w.heap.size, 1, none⟩ = some (.slice b p.length d) := by simp [go_sem]
  have x2 : ((w.alloc (Obj.cells #[Value.slice a l.length c, Value.slice b p.length d] 36)).alloc (Obj.cells #[.int .i64 pk, Value.slice va vs.length vc, Value.slice fa fs.length fc] 41)).cell? ⟨w.heap.size + 1, 0, none⟩ = some (.int .i64 pk) := by simp [go_sem]
  have x3 : ((w.alloc (Obj.cells #[Value.slice a l.length c, Value.slice b p.length d] 36)).alloc (Obj.cells #[.int .i64 pk, Value.slice va vs.length vc, Value.slice fa fs.length fc] 41)).cell? ⟨w.heap.size + 1, 1, none⟩ = some (.slice va vs.length vc) := by simp [go_sem]
  have x4 : ((w.alloc (Obj.cells #[Value.slice a l.length c, Value.slice b p.length d] 36)).alloc (Obj.cells #[.int .i64 pk, Value.slice va vs.length vc, Value.slice fa fs.length fc] 41)).cell? ⟨w.heap.size + 1, 2, none⟩ = some (.slice fa fs.length fc) := by simp [go_sem]
  have ht := target_tree (l := l) (p := p)
  have HT : Hid (targetF l p = true → TreeQ l p) := ht
  clear ht
  go_enter Try.func9, Try.ntmps9
  go_wp2_with fail
  generalize (w.alloc (Obj.cells #[Value.slice a l.length c, Value.slice b p.length d] 36)).alloc (Obj.cells #[.int .i64 pk, Value.slice va vs.length vc, Value.slice fa fs.length fc] 41) = W at *
  refine (target_any _ _ l p _ (h.stays b0) hs).mono ?_
  rintro e w1 ⟨rfl, hb1⟩
  have b1 := b0.trans (hb1.mono b0.size)
  have y0 := cell_stays hb1 x0
  have y1 := cell_stays hb1 x1
  have y2 := cell_stays hb1 x2
  have y3 := cell_stays hb1 x3
  have y4 := cell_stays hb1 x4
  clear x0 x1 x2 x3 x4 hb1
  cases hT : targetF l p with
  | false =>
    have HT2 : Hid (targetF l p = false) := hT
    clear hT
    go_wp2
    go_ret
    exact ⟨says_no fun hh => by have := (HP.out.1 hh).1; rw [HT2.out] at this; exact absurd this (by decide), b1⟩
  | true =>
    have HT2 : Hid (targetF l p = true) := hT
    clear hT
    have hn : NodesOk l := (HT.out HT2.out).node
    go_wp2_with fail
    refine (hasProc_any _ _ l p pk _ (h.stays b1)).mono ?_
    rintro e w2 ⟨rfl, hb2⟩
    have b2 := b1.trans (hb2.mono b1.size)
    have x0 := cell_stays hb2 y0
    have x1 := cell_stays hb2 y1
    have x2 := cell_stays hb2 y2
    have x3 := cell_stays hb2 y3
    have x4 := cell_stays hb2 y4
    clear y0 y1 y2 y3 y4 hb2
    by_cases hpk : 0 ≤ pk ∧ pk < (p.length : Int)
    · rw [decide_eq_true hpk]
      obtain ⟨k, rfl⟩ : ∃ k : Nat, pk = (k : Int) := ⟨pk.toNat, by omega⟩
      have hk : k < p.length := by omega
      change Hid _ at hpk
      go_wp2_with fail
      refine (implVarsOk_any _ vs _ (hV.stays b2) hvn).mono ?_
      rintro e w3 ⟨⟨q, rfl, hq⟩, hb3⟩
      have b3 := b2.trans (hb3.mono b2.size)
      have y0 := cell_stays hb3 x0
      have y1 := cell_stays hb3 x1
      have y2 := cell_stays hb3 x2
      have y3 := cell_stays hb3 x3
      have y4 := cell_stays hb3 x4
      clear x0 x1 x2 x3 x4 hb3
      change Hid _ at hq
      cases q with
      | false =>
        go_wp2
        go_ret
        exact ⟨says_no fun hh => by have := hq.out.2 (HP.out.1 hh).2.2.2.1; exact absurd this (by decide), b3⟩
      | true =>
        go_wp2_with fail
        refine (stackOk_any _ _ l p k _ _ fs _ (h.stays b3) (hF.stays b3) hn hk).mono ?_
        rintro e w4 ⟨⟨r, rfl, hr⟩, hb4⟩
        change Hid _ at hr
        go_wp2
        go_ret
        refine ⟨⟨r, rfl, ?_⟩, b3.trans (hb4.mono b3.size)⟩
        rw [hr.out, HP.out]
        constructor
        · exact fun h => ⟨HT2.out, hpk.out.1, hpk.out.2, hq.out.1 (by trivial), by rw [Int.toNat_natCast]; exact h⟩
        · intro h
          have := h.2.2.2.2
          rw [Int.toNat_natCast] at this
          exact this
    · rw [decide_eq_false hpk]
      change Hid _ at hpk
      go_wp2
      go_ret
      exact ⟨says_no fun hh => hpk.out ⟨(HP.out.1 hh).2.1, (HP.out.1 hh).2.2.1⟩, b2⟩

set_option maxHeartbeats 4000000 in
theorem specCurOk_any (v u vv fv : Value) (l : List Nd) (p : List Pr) (pk : Int) (vs : List Va) (fs : List Vr) (w : World) {lo hi lo1 hi1 lo2 hi2 : Nat} (h : SetAt lo hi w v u l p) (hV : VarsAt lo1 hi1 w vv vs) (hF : VersAt lo2 hi2 w fv fs) (hvn : vs.length ≤ 1048576) :
    Calls Try.prog 6 #[.agg #[v, u], .agg #[.int .i64 pk, vv, fv]] w fun e w' => Says e (curP l p pk vs fs) ∧ Below w.heap.size w w' := by
  obtain ⟨P, hP⟩ : ∃ P : Prop, curP l p pk vs fs = P := ⟨_, rfl⟩
  rw [hP]
  have HP : Hid (P ↔ curP l p pk vs fs) := by show _ ↔ _; rw [hP]
  clear hP
  obtain ⟨a, c, b, d, rfl, rfl⟩ := h.forms
  obtain ⟨va, vc, hv⟩ : ∃ a cap, vv = .slice a vs.length cap := by obtain ⟨a, cap, h1, _⟩ := hV; exact ⟨a, cap, h1⟩
  obtain ⟨fa, fc, hf⟩ : ∃ a cap, fv = .slice a fs.length cap := by obtain ⟨a, cap, h1, _⟩ := hF; exact ⟨a, cap, h1⟩
  subst hv hf
  have b0 : Below w.heap.size w ((w.alloc (Obj.cells #[Value.slice a l.length c, Value.slice b p.length d] 36)).alloc (Obj.cells #[.int .i64 pk, Value.slice va vs.length vc, Value.slice fa fs.length fc] 41)) := ((Below.refl _ _).alloc (Nat.le_refl _) _).alloc (by simp) _
  have x0 : ((w.alloc (Obj.cells #[Value.slice a l.length c, Value.slice b p.length d] 36)).alloc (Obj.cells #[.int .i64 pk, Value.slice va vs.length vc, Value.slice fa fs.length fc] 41)).cell? ⟨w.heap.size, 0, none⟩ = some (.slice a l.length c) := by simp [go_sem]
  have x1 : ((w.alloc (Obj.cells #[Value.slice a l.length c, Value.slice b p.length d] 36)).alloc (Obj.cells #[.int .i64 pk, Value.slice va vs.length vc, Value.slice fa fs.length fc] 41)).cell? ⟨w.heap.size, 1, none⟩ = some (.slice b p.length d) := by simp [go_sem]
  have x2 : ((w.alloc (Obj.cells #[Value.slice a l.length c, Value.slice b p.length d] 36)).alloc (Obj.cells #[.int .i64 pk, Value.slice va vs.length vc, Value.slice fa fs.length fc] 41)).cell? ⟨w.heap.size + 1, 0, none⟩ = some (.int .i64 pk) := by simp [go_sem]
  have x3 : ((w.alloc (Obj.cells #[Value.slice a l.length c, Value.slice b p.length d] 36)).alloc (Obj.cells #[.int .i64 pk, Value.slice va vs.length vc, Value.slice fa fs.length fc] 41)).cell? ⟨w.heap.size + 1, 1, none⟩ = some (.slice va vs.length vc) := by simp [go_sem]
  have x4 : ((w.alloc (Obj.cells #[Value.slice a l.length c, Value.slice b p.length d] 36)).alloc (Obj.cells #[.int .i64 pk, Value.slice va vs.length vc, Value.slice fa fs.length fc] 41)).cell? ⟨w.heap.size + 1, 2, none⟩ = some (.slice fa fs.length fc) := by simp [go_sem]
  have ht := target_tree (l := l) (p := p)
  have HT : Hid (targetF l p = true → TreeQ l p) := ht
  clear ht
  go_enter Try.func6, Try.ntmps6
  go_wp2_with fail
  generalize (w.alloc (Obj.cells #[Value.slice a l.length c, Value.slice b p.length d] 36)).alloc (Obj.cells #[.int .i64 pk, Value.slice va vs.length vc, Value.slice fa fs.length fc] 41) = W at *
  refine (xTarget_any _ _ l p _ (h.stays b0)).mono ?_
  rintro e w1 ⟨rfl, hb1⟩
  have b1 := b0.trans (hb1.mono b0.size)
  have y0 := cell_stays hb1 x0
  have y1 := cell_stays hb1 x1
  have y2 := cell_stays hb1 x2
  have y3 := cell_stays hb1 x3
  have y4 := cell_stays hb1 x4
  clear x0 x1 x2 x3 x4 hb1
  cases hT : targetF l p with
  | false =>
    have HT2 : Hid (targetF l p = false) := hT
    clear hT
    go_wp2
    go_ret
    exact ⟨says_no fun hh => by have := (HP.out.1 hh).1; rw [HT2.out] at this; exact absurd this (by decide), b1⟩
  | true =>
    have HT2 : Hid (targetF l p = true) := hT
    clear hT
    have hn : NodesOk l := (HT.out HT2.out).node
    by_cases hp0 : 0 ≤ pk
    · by_cases hp1 : pk < (p.length : Int)
      · obtain ⟨k, rfl⟩ : ∃ k : Nat, pk = (k : Int) := ⟨pk.toNat, by omega⟩
        have hk : k < p.length := by omega
        have hk1 : Hid ((0 : Int) ≤ (k : Int) ∧ (k : Int) < (p.length : Int)) := ⟨hp0, hp1⟩
        go_wp2_with fail
        refine (specVarsOk_any _ vs _ (hV.stays b1) hvn).mono ?_
        rintro e w3 ⟨⟨q, rfl, hq⟩, hb3⟩
        have b3 := b1.trans (hb3.mono b1.size)
        have x0 := cell_stays hb3 y0
        have x1 := cell_stays hb3 y1
        have x2 := cell_stays hb3 y2
        have x3 := cell_stays hb3 y3
        have x4 := cell_stays hb3 y4
        clear y0 y1 y2 y3 y4 hb3
        change Hid _ at hq
        cases q with
        | false =>
          go_wp2
          go_ret
          exact ⟨says_no fun hh => by have := hq.out.2 (HP.out.1 hh).2.2.2.1; exact absurd this (by decide), b3⟩
        | true =>
          go_wp2_with fail
          refine (l7frames_any _ _ l p k _ _ fs _ (h.stays b3) (hF.stays b3) hn hk).mono ?_
          rintro e w4 ⟨⟨r, rfl, hr⟩, hb4⟩
          change Hid _ at hr
          go_wp2
          go_ret
          refine ⟨⟨r, rfl, ?_⟩, b3.trans (hb4.mono b3.size)⟩
          rw [hr.out, HP.out]
          constructor
          · exact fun h => ⟨HT2.out, hk1.out.1, hk1.out.2, hq.out.1 (by trivial), by rw [Int.toNat_natCast]; exact h⟩
          · intro h
            have := h.2.2.2.2
            rw [Int.toNat_natCast] at this
            exact this
      · go_wp2
        go_ret
        exact ⟨says_no fun hh => by have := (HP.out.1 hh).2.2.1; omega, b1⟩
    · go_wp2
      go_ret
      exact ⟨says_no fun hh => by have := (HP.out.1 hh).2.1; omega, b1⟩

end Go.Proofs.Ytjikmpdgednlaaa
