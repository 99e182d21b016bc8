/- The specification's Stmts, StepBound and TargetOk. -/
import Derived.Test.YtjikmpdgednlaaaXTree2
import Derived.Test.YtjikmpdgednlaaaXCnt
import Derived.Test.YtjikmpdgednlaaaXStp
import Derived.Test.YtjikmpdgednlaaaZTree
namespace Go.Proofs.Ytjikmpdgednlaaa
open Go.ChangeShapes Go.WideShapes Go.ChangeAt Go.RowKit
set_option linter.unusedVariables false
set_option maxRecDepth 100000
attribute [local go_sem ↓] Go.wp_at_zero Go.wp_at_succ

def cntP (l : List Nd) (x : Pr) : Int := wr (cntF l l.length x.body.toNat)
def stpP (l : List Nd) (x : Pr) : Int := capI (1 + stpF l l.length x.body.toNat)

set_option maxHeartbeats 4000000 in
theorem xStmts_any (v u : Value) (l : List Nd) (p : List Pr) (i : Nat) (w : World) {lo hi : Nat} (h : SetAt lo hi w v u l p) (hT : TreeQ l p) (hF : treeF l p = true) (hi' : i < p.length) :
    Calls Try.prog 36 #[.agg #[v, u], .int .i64 (i : Int)] w fun e w' => e = .returned (.int .i64 (cntP l (prAt p i))) ∧ Below w.heap.size w w' := by
  obtain ⟨a, c, b, d, rfl, rfl⟩ := h.forms
  have bA : Below w.heap.size w (w.alloc (Obj.cells #[.slice a l.length c, .slice b p.length d] 36)) := (Below.refl _ _).alloc (Nat.le_refl _) _
  have y0 : (w.alloc (Obj.cells #[.slice a l.length c, .slice b p.length d] 36)).cell? ⟨w.heap.size, 0, none⟩ = some (.slice a l.length c) := by simp [go_sem]
  have y1 : (w.alloc (Obj.cells #[.slice a l.length c, .slice b p.length d] 36)).cell? ⟨w.heap.size, 1, none⟩ = some (.slice b p.length d) := by simp [go_sem]
  have hA := h.stays bA
  have hp8 := hT.procs
  have hbd : 0 ≤ (prAt p i).body ∧ (prAt p i).body < (l.length : Int) := by
    have e : prAt p i = p[i] := by simp [prAt, hi']
    rw [e]
    have := hT.body _ (List.getElem_mem hi')
    exact ⟨this.1, this.2.1⟩
  obtain ⟨x, hx⟩ := Int.eq_ofNat_of_zero_le hbd.1
  have hxl : x < l.length := by omega
  obtain ⟨a2, c2, e2, hm2, hcp⟩ := id h.2
  cases e2
  obtain ⟨pb, off, rfl, _, _, hcl⟩ := hcp (by omega)
  obtain ⟨_, _, n2⟩ := hcl i hi'
  rw [hx] at n2
  have i0 : (0 : Int) ≤ (i : Int) := by omega
  have i1 : (i : Int) < (p.length : Int) := by omega
  have hcx : cntP l (prAt p i) = wr (cntF l l.length x) := by rw [cntP, hx]; rfl
  rw [hcx]
  have hC := fun w' hw' => xcnt_all (v := .slice a l.length c) (u := .slice (some ⟨pb, off, none⟩) p.length d) (p := p) (lo := lo) (hi := hi) hT.node l.length x hxl hxl w' hw'
  clear hcl hcp hx hbd hcx
  generalize wr (cntF l l.length x) = Z at *
  go_enter Try.func36, Try.ntmps36
  go_wp2_with (go_at_call 34; refine (l5tree_any _ _ l p _ hA).mono ?_; rw [hF]; rintro e w2 ⟨rfl, hb2⟩; have y0' := cell_stays hb2 y0; have y1' := cell_stays hb2 y1)
  have bW := bA.trans (hb2.mono bA.size)
  have q0 := cell_regrown y0'
  have q1 := cell_regrown y1'
  have q2 := cell_regrown (cell_stays bW n2)
  have hS := hA.stays hb2
  refine wp_region_quiet_below (by kernel_rfl) (by kernel_rfl) ?_
  repeat (go_big_quiet_step ((go_at_call 57; exact Calls.regrown_of (hC _ (hS.stays (below_regrown _ _ _))))))
  refine wpQuiet_nil ?_
  intro w8 hw8
  obtain ⟨⟨d8, o8⟩, hw8'⟩ := hw8
  have hb8 : Below _ _ w8 := hw8' ▸ below_regrown _ d8 o8
  clear hw8'
  go_wp2
  go_ret
  exact ⟨rfl, bW.trans (hb8.mono bW.size)⟩

set_option maxHeartbeats 4000000 in
theorem xBound_any (v u : Value) (l : List Nd) (p : List Pr) (i : Nat) (w : World) {lo hi : Nat} (h : SetAt lo hi w v u l p) (hT : TreeQ l p) (hF : treeF l p = true) (ht : TimesOk l) (hi' : i < p.length) :
    Calls Try.prog 37 #[.agg #[v, u], .int .i64 (i : Int)] w fun e w' => e = .returned (.int .i64 (stpP l (prAt p i))) ∧ Below w.heap.size w w' := by
  obtain ⟨a, c, b, d, rfl, rfl⟩ := h.forms
  have bA : Below w.heap.size w (w.alloc (Obj.cells #[.slice a l.length c, .slice b p.length d] 36)) := (Below.refl _ _).alloc (Nat.le_refl _) _
  have y0 : (w.alloc (Obj.cells #[.slice a l.length c, .slice b p.length d] 36)).cell? ⟨w.heap.size, 0, none⟩ = some (.slice a l.length c) := by simp [go_sem]
  have y1 : (w.alloc (Obj.cells #[.slice a l.length c, .slice b p.length d] 36)).cell? ⟨w.heap.size, 1, none⟩ = some (.slice b p.length d) := by simp [go_sem]
  have hA := h.stays bA
  have hp8 := hT.procs
  have hbd : 0 ≤ (prAt p i).body ∧ (prAt p i).body < (l.length : Int) := by
    have e : prAt p i = p[i] := by simp [prAt, hi']
    rw [e]
    have := hT.body _ (List.getElem_mem hi')
    exact ⟨this.1, this.2.1⟩
  obtain ⟨x, hx⟩ := Int.eq_ofNat_of_zero_le hbd.1
  have hxl : x < l.length := by omega
  obtain ⟨a2, c2, e2, hm2, hcp⟩ := id h.2
  cases e2
  obtain ⟨pb, off, rfl, _, _, hcl⟩ := hcp (by omega)
  obtain ⟨_, _, n2⟩ := hcl i hi'
  rw [hx] at n2
  have i0 : (0 : Int) ≤ (i : Int) := by omega
  have i1 : (i : Int) < (p.length : Int) := by omega
  have hcx : stpP l (prAt p i) = capI (1 + stpF l l.length x) := by rw [stpP, hx]; rfl
  rw [hcx]
  have hC := fun w' hw' => xstp_all (v := .slice a l.length c) (u := .slice (some ⟨pb, off, none⟩) p.length d) (p := p) (lo := lo) (hi := hi) hT.node ht l.length x hxl hxl w' hw'
  obtain ⟨zl, zh⟩ := stpF_nn hT.node ht l.length x hxl
  clear hcl hcp hx hbd hcx
  generalize stpF l l.length x = Z at *
  go_enter Try.func37, Try.ntmps37
  go_wp2_with (go_at_call 34; refine (l5tree_any _ _ l p _ hA).mono ?_; rw [hF]; rintro e w2 ⟨rfl, hb2⟩; have y0' := cell_stays hb2 y0; have y1' := cell_stays hb2 y1)
  have bW := bA.trans (hb2.mono bA.size)
  have q0 := cell_regrown y0'
  have q1 := cell_regrown y1'
  have q2 := cell_regrown (cell_stays bW n2)
  have hS := hA.stays hb2
  refine wp_region_quiet_below (by kernel_rfl) (by kernel_rfl) ?_
  repeat (go_big_quiet_step (first | (go_at_call 59; exact Calls.regrown_of (hC _ (hS.stays (below_regrown _ _ _)))) | (go_at_call 58; exact Calls.regrown_of ((l5cap_any _ _).mono fun e w' hh => ⟨hh.1, hh.2 ▸ Below.refl _ _⟩))))
  refine wpQuiet_nil ?_
  intro w8 hw8
  obtain ⟨⟨d8, o8⟩, hw8'⟩ := hw8
  have hb8 : Below _ _ w8 := hw8' ▸ below_regrown _ d8 o8
  clear hw8'
  go_wp2
  go_ret
  exact ⟨rfl, bW.trans (hb8.mono bW.size)⟩

/-- Node x reads or writes a table that there is not. -/
def wrongTab (x : Nd) : Bool := (decide (x.k = 21) && (decide (x.n < 0) || decide (3 < x.n))) || (decide (x.k = 22) && (decide (x.n < 0) || decide (4 < x.n)))
def procBad (l : List Nd) (x : Pr) : Bool := decide (3 < x.ps.length) || (decide (97 < cntP l x) || decide (2410 < stpP l x))
def targetR (l : List Nd) (p : List Pr) : Bool := !(l.any wrongTab) && !(p.any (procBad l))
/-- May it be run? -/
def targetF (l : List Nd) (p : List Pr) : Bool := treeF l p && (decide (1 ≤ p.length) && (decide (p.length ≤ 4) && (timesF l && targetR l p)))

theorem timesF_ok {l : List Nd} (h : timesF l = true) : TimesOk l := fun m hm hk => by
  cases hb : wrongT (ndAt l m) with
  | true => rw [timesF_bad hm hb] at h; cases h
  | false =>
    simp only [wrongT, hk, decide_true, Bool.true_and, Bool.or_eq_false_iff, decide_eq_false_iff_not] at hb
    omega

theorem ndAt_mem {l : List Nd} {i : Nat} (hi : i < l.length) : ndAt l i ∈ l := by
  have e : ndAt l i = l[i] := by simp [ndAt, hi]
  rw [e]
  exact List.getElem_mem hi
theorem targetR_tab {l : List Nd} {p : List Pr} {i : Nat} (hi : i < l.length) (h : wrongTab (ndAt l i) = true) : targetR l p = false := by
  have : l.any wrongTab = true := List.any_eq_true.2 ⟨_, ndAt_mem hi, h⟩
  rw [targetR, this]
  rfl
theorem prAt_mem' {p : List Pr} {i : Nat} (hi : i < p.length) : prAt p i ∈ p := by
  have e : prAt p i = p[i] := by simp [prAt, hi]
  rw [e]
  exact List.getElem_mem hi
theorem targetR_proc {l : List Nd} {p : List Pr} {i : Nat} (hi : i < p.length) (h : procBad l (prAt p i) = true) : targetR l p = false := by
  have : p.any (procBad l) = true := List.any_eq_true.2 ⟨_, prAt_mem' hi, h⟩
  rw [targetR, this, Bool.not_true, Bool.and_false]
theorem targetR_good {l : List Nd} {p : List Pr} (h1 : ∀ i, i < l.length → wrongTab (ndAt l i) = false) (h2 : ∀ i, i < p.length → procBad l (prAt p i) = false) : targetR l p = true := by
  have e1 : l.any wrongTab = false := by
    rw [List.any_eq_false]
    intro x hx
    obtain ⟨i, hi, rfl⟩ := List.mem_iff_getElem.1 hx
    have e : ndAt l i = l[i] := by simp [ndAt, hi]
    have := h1 i hi
    rw [e] at this
    simp [this]
  have e2 : p.any (procBad l) = false := by
    rw [List.any_eq_false]
    intro x hx
    obtain ⟨i, hi, rfl⟩ := List.mem_iff_getElem.1 hx
    have e : prAt p i = p[i] := by simp [prAt, hi]
    have := h2 i hi
    rw [e] at this
    simp [this]
  rw [targetR, e1, e2]
  rfl

end Go.Proofs.Ytjikmpdgednlaaa
