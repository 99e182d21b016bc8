/- impl.variablesOf: a map of the first value of each name. -/
import Derived.Test.YtgnfiakbcogdlanV3
import Derived.RangeFuncCalls
namespace Go.Proofs.Ytgnfiakbcogdlan
open Go.ChangeShapes Go.WideShapes Go.ChangeAt Go.RowKit Go.Maps Go.Deep Go.Joins Go.Sort Go.Shelf
set_option linter.unusedVariables false
set_option maxRecDepth 100000
attribute [local go_sem ↓] Go.wp_at_zero Go.wp_at_succ

theorem makeMapV (n : Int) (w : World) : (Instr.makeMap 83 (some (.int .i64 n))).run Try.prog w = .ok (.map (some w.heap.size)) (w.alloc (.map #[] 0)) := by
  simp [Instr.makeMap, run_underlying Try.underlying83, asInt, asIntOf]

/-- The first value of that name. -/
def firstV : List Va → ByteArray → Option Int
  | [], _ => none
  | x :: l, s => if s = x.1 then some x.2 else firstV l s
theorem firstV_cons (x : Va) (l : List Va) : firstV (x :: l) = putS (firstV l) x.1 x.2 := by funext s; rfl
theorem va_get {l : List Va} {k : Nat} (h : k < l.length) : l[k] = vaAt l k := by simp [vaAt, h]
theorem vdrop_at {l : List Va} {k : Nat} (h : k < l.length) : l.drop k = vaAt l k :: l.drop (k + 1) := by rw [List.drop_eq_getElem_cons h, va_get h]

def vAssign : Code := Code.region 3 #[{ dst := some 5, op := Op.alloc 79, type := 0, pos := "l06_serial.go:111", after := #[], guard := none }, { dst := none, op := Op.store 79 (Operand.tmp 5) (Operand.tmp 12), type := 0, pos := "l06_serial.go:111", after := #[{ on := 0, ground := Ground.data }, { on := 0, ground := Ground.phase }], guard := none }] false
def vBody : Code := Code.block 1 (Code.region 4 #[{ dst := some 13, op := Op.load 83 (Operand.tmp 3), type := 83, pos := "l06_serial.go:112", after := #[], guard := none }, { dst := some 14, op := Op.fieldAddr 79 (Operand.tmp 5) 0, type := 0, pos := "l06_serial.go:112", after := #[], guard := none }, { dst := some 15, op := Op.load 9 (Operand.tmp 14), type := 9, pos := "l06_serial.go:112", after := #[{ on := 1, ground := Ground.data }], guard := none }, { dst := some 16, op := Op.fieldAddr 79 (Operand.tmp 5) 1, type := 0, pos := "l06_serial.go:112", after := #[], guard := none }, { dst := some 17, op := Op.load 3 (Operand.tmp 16), type := 3, pos := "l06_serial.go:112", after := #[{ on := 3, ground := Ground.data }], guard := none }, { dst := some 18, op := Op.call { callee := Callee.value (Operand.func 48), args := #[Operand.tmp 13, Operand.tmp 15, Operand.tmp 17], argTypes := #[83, 9, 3] }, type := 0, pos := "l06_serial.go:112", after := #[{ on := 0, ground := Ground.data }, { on := 2, ground := Ground.data }, { on := 4, ground := Ground.data }], guard := none }] false)
/-- The loop's record: variablesOf's temporaries as they stood at the entering. -/
def vRec (fn : FuncId) (sv : Value) (ln : Nat) (B D : Nat) (st : LoopState) (pend : Option Code) : Loop :=
  { state := st, pending := pend, fn, tmps := #[sv, undef, .map none, .pointer (some ⟨B + 1, 0, none⟩), undef, undef, sv, .int .i64 (ln : Int), .map (some B), sv, .func (.func 101) #[] #[.pointer (some ⟨B + 1 + 1, 0, none⟩)], undef, undef, undef, undef, undef, undef, undef, undef, undef], params := #[11, 12], assign := vAssign, body := vBody, defers := D }

/-- Between two rounds: the map holds what has come so far. -/
structure VpK (w0 : World) (fn : FuncId) (sv : Value) (l : List Va) (lp D : Nat) (k : Nat) (W : World) : Prop where
  mp : VMap W w0.heap.size k (firstV (l.drop (l.length - k)))
  box : W.heap[w0.heap.size + 1]? = some (.cells #[.map (some w0.heap.size)] 83 (0, 0))
  sl : W.heap[w0.heap.size + 1 + 1]? = some (.cells #[sv] 38 (0, 0))
  L : W.heap[lp]? = some (.loop (vRec fn sv l.length w0.heap.size D .ready none))
  K : W.heap[D]? = some (.deferred (some []))
  below : Below w0.heap.size w0 W

set_option maxHeartbeats 4000000 in
theorem vYield (m : Nat) (hm : 1 ≤ m) (w0 : World) (fn : FuncId) (sv : Value) (l : List Va) (hw : WfVa l) (hn : l.length ≤ 1048576) (lp D : Nat) (hD : D = w0.heap.size + 3) (hlp : lp = w0.heap.size + 4) (k : Nat) (hk : k < l.length) (W : World) (h : VpK w0 fn sv l lp D k W) :
    YieldAt Fence.wide m Try.prog lp #[.int .i64 ((l.length - 1 - k : Nat) : Int), .agg #[.string (vaAt l (l.length - 1 - k)).1, .int .i64 (vaAt l (l.length - 1 - k)).2]] W fun e W' => e = .returned (.bool true) ∧ VpK w0 fn sv l lp D (k + 1) W' := by
  subst hD hlp
  obtain ⟨p, hp⟩ : ∃ p, l.length - 1 - k = p := ⟨_, rfl⟩
  rw [hp]
  have hpl : p < l.length := by omega
  have hss := (hw p hpl).1
  have hfv : putS (firstV (l.drop (l.length - k))) (vaAt l p).1 (vaAt l p).2 = firstV (l.drop (l.length - (k + 1))) := by
    rw [show l.length - (k + 1) = p by omega, vdrop_at hpl, firstV_cons, show p + 1 = l.length - k by omega]
  refine ⟨fn, #[sv, undef, .map none, .pointer (some ⟨w0.heap.size + 1, 0, none⟩), undef, undef, sv, .int .i64 (l.length : Int), .map (some w0.heap.size), sv, .func (.func 101) #[] #[.pointer (some ⟨w0.heap.size + 1 + 1, 0, none⟩)], .int .i64 (p : Int), .agg #[.string (vaAt l p).1, .int .i64 (vaAt l p).2], undef, undef, undef, undef, undef, undef, undef], vAssign, vBody, by simpa [vRec] using run_yield (P := Try.prog) (args := #[.int .i64 (p : Int), .agg #[.string (vaAt l p).1, .int .i64 (vaAt l p).2]]) h.L rfl, roundIn_of_wpIn trivial ?_⟩
  have hl0 : (w0.heap.size + 4) < W.heap.size := (Array.getElem?_eq_some_iff.1 h.L).1
  have hD0 : (w0.heap.size + 3) < W.heap.size := (Array.getElem?_eq_some_iff.1 h.K).1
  obtain ⟨WA, hWA⟩ : ∃ WA, W.alloc (Obj.cells #[Value.string (vaAt l p).1, Value.int IntKind.i64 (vaAt l p).2] 79) = WA := ⟨_, rfl⟩
  have old : ∀ j, j < W.heap.size → WA.heap[j]? = W.heap[j]? := fun j hj => by rw [← hWA]; exact Below.heap_alloc _ _ j hj
  have hsA : WA.heap.size = W.heap.size + 1 := by rw [← hWA]; simp
  have hnew : WA.heap[W.heap.size]? = some (.cells #[Value.string (vaAt l p).1, Value.int IntKind.i64 (vaAt l p).2] 79 (0, 0)) := by rw [← hWA]; exact World.alloc_heap_new W _
  have hLA := (old (w0.heap.size + 4) hl0).trans h.L
  have hbA : Below w0.heap.size w0 WA := by rw [← hWA]; exact h.below.alloc h.below.size _
  have hbr := run_beginRound (P := Try.prog) hLA rfl
  obtain ⟨W2, hW2⟩ : ∃ W2, WA.putObj (w0.heap.size + 4) (.loop { vRec fn sv l.length w0.heap.size (w0.heap.size + 3) .ready none with state := .busy }) = W2 := ⟨_, rfl⟩
  rw [hW2] at hbr
  have hg2 : WA.grownBy W2 (some (w0.heap.size + 4)) := by rw [← hW2]; exact grownBy_putObj_a _ _ _
  have hs2 : W2.heap.size = WA.heap.size := by rw [← hW2]; simp
  have oth : ∀ j, j ≠ (w0.heap.size + 4) → j < W.heap.size → W2.heap[j]? = W.heap[j]? := fun j hj hjl => by rw [← hW2]; exact (World.putObj_heap_other hj).trans (old j hjl)
  have hM2 : VMap W2 w0.heap.size k (firstV (l.drop (l.length - k))) := h.mp.of_block (oth _ (by omega) (by omega))
  have hv2 : W2.heap[w0.heap.size + 1]? = some (.cells #[.map (some w0.heap.size)] 83 (0, 0)) := (oth _ (by omega) (by omega)).trans h.box
  have hsl2 : W2.heap[w0.heap.size + 1 + 1]? = some (.cells #[sv] 38 (0, 0)) := (oth _ (by omega) (by omega)).trans h.sl
  have hK2 : W2.heap[(w0.heap.size + 3)]? = some (.deferred (some [])) := (oth _ (by omega) hD0).trans h.K
  have hL2 : W2.heap[(w0.heap.size + 4)]? = some (.loop { vRec fn sv l.length w0.heap.size (w0.heap.size + 3) .ready none with state := .busy }) := by rw [← hW2]; exact World.putObj_heap_same (by omega)
  have hn2 : W2.heap[W.heap.size]? = some (.cells #[Value.string (vaAt l p).1, Value.int IntKind.i64 (vaAt l p).2] 79 (0, 0)) := by rw [← hW2]; exact (World.putObj_heap_other (by omega)).trans hnew
  have hb2 : Below w0.heap.size w0 W2 := hbA.grown hg2 hbA.size (fun j e => by cases e; omega)
  have hc2 : W2.cell? ⟨w0.heap.size + 1, 0, none⟩ = some (.map (some w0.heap.size)) := by simp [World.cell?, hv2]
  have hx0 : W2.cell? ⟨W.heap.size, 0, none⟩ = some (.string (vaAt l p).1) := by simp [World.cell?, hn2]
  have hx1 : W2.cell? ⟨W.heap.size, 1, none⟩ = some (.int .i64 (vaAt l p).2) := by simp [World.cell?, hn2]
  clear hW2 hs2 hsA
  unfold vAssign
  gi_wp2_with gi_round_op_a
  clear hWA
  unfold vBody
  gi_wp2_with (first
    | ((first | refine ⟨trivial, ?_⟩ | refine ⟨fun _ => by omega, ?_⟩ | skip); gi_at_call 48; refine (CallsIn.inRound (w0.heap.size + 4) (callsIn_wide.2 (varsPut_own _ k _ (vaAt l p).1 (vaAt l p).2 _ hM2 (by omega) hss))).mono ?_; rintro e w3 ⟨rfl, hM3, hturn3⟩)
    | gi_round_op_a)
  have g3 := hturn3.grown
  have o3 : ∀ j, j ≠ w0.heap.size → j < W2.heap.size → w3.heap[j]? = W2.heap[j]? := fun j hj hjl => g3.block j hjl (fun e => hj (by injection e))
  have hL3 := (o3 _ (by omega) (Array.getElem?_eq_some_iff.1 hL2).1).trans hL2
  have hl3 : w0.heap.size + 4 < w3.heap.size := (Array.getElem?_eq_some_iff.1 hL3).1
  have hb3 : Below w0.heap.size w0 w3 := hb2.grown g3 hb2.size (fun j e => by cases e; exact Nat.le_refl _)
  rw [hfv] at hM3
  refine ⟨_, _, run_endRound none hL3, rfl, ⟨hM3.of_block (World.putObj_heap_other (by omega)), (World.putObj_heap_other (by omega)).trans ((o3 _ (by omega) (Array.getElem?_eq_some_iff.1 hv2).1).trans hv2), (World.putObj_heap_other (by omega)).trans ((o3 _ (by omega) (Array.getElem?_eq_some_iff.1 hsl2).1).trans hsl2), World.putObj_heap_same hl3, (World.putObj_heap_other (by omega)).trans ((o3 _ (by omega) (Array.getElem?_eq_some_iff.1 hK2).1).trans hK2), hb3.grown (grownBy_putObj_a _ _ _) hb3.size (fun j e => by cases e; omega)⟩⟩

set_option maxHeartbeats 4000000 in
theorem variablesOf_in (n : Nat) (hn4 : 4 ≤ n) (v : Value) (l : List Va) (w : World) {lo hi : Nat} (h : VarsAt lo hi w v l) (hhi : hi ≤ w.heap.size) (hw : WfVa l) (hn : l.length ≤ 1048576) :
    CallsIn Fence.wide n Try.prog 47 #[v] w fun e w' => ∃ b, e = .returned (.map (some b)) ∧ VMap w' b l.length (firstV l) ∧ w.heap.size ≤ b ∧ Below w.heap.size w w' := by
  obtain ⟨a, cap, rfl, hm, hc⟩ := id h
  have h1 : 1 ≤ n := by omega
  have hro : Fence.wide.round = none := rfl
  have hmk := makeMapV
  refine callsIn_of_wp_marks Try.func47 rfl trivial ?_ hro
  simp only [Try.ntmps47, List.size_toArray, List.length_cons, List.length_nil, Nat.reduceAdd, Nat.reduceSub, Array.replicate_succ, Array.replicate_zero, List.push_toArray, List.append_toArray, List.nil_append, List.cons_append]
  gi_wp2
  refine ⟨trivial, ?_⟩
  refine (backward_call (n - 1) _ _ ⟨_, _, _, rfl⟩).mono ?_
  rintro e w' ⟨rfl, rfl⟩
  gi_wp2
  refine wpIn_rangeFunc ?_
  intro fn hfn
  rw [hro]
  obtain ⟨W0, hW0⟩ : ∃ W0, ((w.alloc (Obj.map #[] 0)).alloc (Obj.cells #[Value.map (some w.heap.size)] 83)).alloc (Obj.cells #[Value.slice a l.length cap] 38) = W0 := ⟨_, rfl⟩
  have hs0 : W0.heap.size = w.heap.size + 3 := by rw [← hW0]; simp
  have hb0 : Below w.heap.size w W0 := by rw [← hW0]; exact (((Below.refl _ w).alloc (Nat.le_refl _) _).alloc (by simp) _).alloc (by simp; omega) _
  have hm0 : VMap W0 w.heap.size 0 (fun _ => none) := by
    rw [← hW0]
    exact (VMap.made w).of_block ((Below.heap_alloc _ _ _ (by simp; omega)).trans (Below.heap_alloc _ _ _ (by simp)))
  have hv0 : W0.heap[w.heap.size + 1]? = some (.cells #[.map (some w.heap.size)] 83 (0, 0)) := by
    rw [← hW0]
    have := World.alloc_heap_new (w.alloc (Obj.map #[] 0)) (Obj.cells #[Value.map (some w.heap.size)] 83)
    rw [World.size_alloc] at this
    exact (Below.heap_alloc _ _ _ (by simp)).trans this
  have hsl0 : W0.heap[w.heap.size + 1 + 1]? = some (.cells #[.slice a l.length cap] 38 (0, 0)) := by
    rw [← hW0]
    have := World.alloc_heap_new ((w.alloc (Obj.map #[] 0)).alloc (Obj.cells #[Value.map (some w.heap.size)] 83)) (Obj.cells #[Value.slice a l.length cap] 38)
    simpa using this
  rw [hW0]
  obtain ⟨W1, hW1⟩ : ∃ W1, (W0.alloc (.deferred (some []))).alloc (.loop (vRec fn (.slice a l.length cap) l.length w.heap.size W0.heap.size .ready none)) = W1 := ⟨_, rfl⟩
  have hold : ∀ j, j < W0.heap.size → W1.heap[j]? = W0.heap[j]? := fun j hj => by
    rw [← hW1]; exact (Below.heap_alloc _ _ j (by simp; omega)).trans (Below.heap_alloc _ _ j hj)
  have hb1 : Below w.heap.size w W1 := by rw [← hW1]; exact (hb0.alloc hb0.size _).alloc (by have := hb0.size; simp; omega) _
  have hs1 : W1.heap.size = W0.heap.size + 2 := by rw [← hW1]; simp
  have hM : VpK w fn (.slice a l.length cap) l (W0.heap.size + 1) W0.heap.size 0 W1 :=
    ⟨by rw [Nat.sub_zero, List.drop_length]; exact (hm0.of_block (hold _ (by omega))), (hold _ (by omega)).trans hv0, (hold _ (by omega)).trans hsl0,
     by rw [← hW1]; have := World.alloc_heap_new (W0.alloc (.deferred (some []))) (.loop (vRec fn (.slice a l.length cap) l.length w.heap.size W0.heap.size .ready none)); rwa [World.size_alloc] at this,
     by rw [← hW1]; exact (Below.heap_alloc _ _ _ (by simp)).trans (World.alloc_heap_new W0 _), hb1⟩
  refine ⟨W0.heap.size + 1, [{ target := .collected W0.heap.size, args := #[] }], W1, { target := .fn (.func 101) #[.pointer (some ⟨w.heap.size + 1 + 1, 0, none⟩)], args := #[.func (.yield (W0.heap.size + 1)) #[] #[]] }, W1, 101,
    #[.func (.yield (W0.heap.size + 1)) #[] #[]] ++ #[.pointer (some ⟨w.heap.size + 1 + 1, 0, none⟩)], W1, ?_, ?_, ?_, ?_, fun _ => h1, ?_⟩
  · rw [← hW1]; exact run_enterLoop_outer _ _ _ _ _
  · simp [resolve, go_sem]
  · intro f' hf'; trivial
  · simp [invoke, go_sem]
  · refine (backward_in (n - 1) (by omega) (W0.heap.size + 1) (w.heap.size + 1 + 1) a cap l hn (VpK w fn (.slice a l.length cap) l (W0.heap.size + 1) W0.heap.size)
      (fun k W hJ => ⟨by simp [World.cell?, hJ.sl], fun hp => by
        obtain ⟨b, off, ha, hlo, hbh, hcc⟩ := hc hp
        exact ⟨b, off, ha, fun i hi => ⟨by rw [hJ.below.cell (by show b < _; omega)]; exact (hcc i hi).1, by rw [hJ.below.cell (by show b < _; omega)]; exact (hcc i hi).2⟩⟩⟩)
      (fun k W hJ hk => vYield (n - 1 - 1) (by omega) w fn _ l hw hn _ _ (by omega) (by omega) k hk W hJ) W1 hM).mono ?_
    rintro e W2 ⟨⟨v0, rfl⟩, h2⟩
    have hend := run_endLoop (P := Try.prog) h2.L (by simp [vRec])
    obtain ⟨W3, hW3⟩ : ∃ W3, W2.putObj (W0.heap.size + 1) (.loop { vRec fn (.slice a l.length cap) l.length w.heap.size W0.heap.size .ready none with state := .exhausted }) = W3 := ⟨_, rfl⟩
    rw [hW3] at hend
    have hg3 : W2.grownBy W3 (some (W0.heap.size + 1)) := by rw [← hW3]; exact grownBy_putObj_a _ _ _
    have hv3 : W3.heap[w.heap.size + 1]? = some (.cells #[.map (some w.heap.size)] 83 (0, 0)) := by rw [← hW3]; exact (World.putObj_heap_other (by omega)).trans h2.box
    have hK3 : W3.heap[W0.heap.size]? = some (.deferred (some [])) := by rw [← hW3]; exact (World.putObj_heap_other (by omega)).trans h2.K
    have hM3 : VMap W3 w.heap.size l.length (firstV l) := by
      have := h2.mp
      rw [Nat.sub_self, List.drop_zero] at this
      rw [← hW3]; exact this.of_block (World.putObj_heap_other (by omega))
    have hb3 : Below w.heap.size w W3 := h2.below.grown hg3 h2.below.size (fun j e => by cases e; omega)
    obtain ⟨hc3, hf3⟩ := cell_of_box_a hv3
    clear hW3
    refine ⟨none, W3, hend, ?_⟩
    rw [hs0] at hK3
    gi_wp2
    refine ⟨by simp, .inl ⟨_, _, rfl, run_takeDeferred hK3, ?_⟩⟩
    exact ⟨_, results_tmp rfl _ _ _, w.heap.size, rfl, hM3.of_block (World.putObj_heap_other (by omega)), Nat.le_refl _, hb3.grown (grownBy_putObj_a _ _ _) hb3.size (fun j e => by cases e; omega)⟩
end Go.Proofs.Ytgnfiakbcogdlan
