/- The specification's test for a tree set answers treeF. -/
import Derived.Test.YtjikmpdgednlaaaXTree
namespace Go.Proofs.Ytjikmpdgednlaaa
open Go.ChangeShapes Go.WideShapes Go.ChangeAt Go.RowKit
set_option linter.unusedVariables false
set_option maxRecDepth 100000
attribute [local go_sem ↓] Go.wp_at_zero Go.wp_at_succ

theorem l5sort_b (k : Int) (w : World) : Calls Try.prog 55 #[.int .i64 k] w fun e w' => e = .returned (.int .i64 (sortI k)) ∧ Below w.heap.size w w' :=
  (l5sort_any k w).mono fun e w' ⟨h1, h2⟩ => ⟨h1, by rw [h2]; exact Below.refl _ _⟩
theorem l5kid_b (k : Int) (j : Nat) (w : World) : Calls Try.prog 56 #[.int .i64 k, .int .i64 (j : Int)] w fun e w' => e = .returned (.int .i64 (kidI k j)) ∧ Below w.heap.size w w' :=
  (l5kid_any k j w).mono fun e w' ⟨h1, h2⟩ => ⟨h1, by rw [h2]; exact Below.refl _ _⟩

theorem infoN : (Try.prog.info? 3).map (fun i => (i.zero, i.size, i.bytes)) = some (some (.int .i64 0), 1, 8) := by kernel_rfl
theorem mk_used (n : Nat) (hn : n ≤ 1048576) (w : World) :
    (Instr.makeSlice 62 (.int .i64 (n : Int)) (.int .i64 (n : Int))).run Try.prog w = .ok (.slice (some ⟨w.heap.size, 0, none⟩) n n) (w.alloc (.cells (madeCells #[.int .i64 0] n) 3)) := by
  obtain ⟨i, hi, hz0, hz1, hz2⟩ := info_parts infoN
  have hr := run_make (P := Try.prog) w 62 3 i _ Try.underlying62 hi hz0 .i64 .i64 n n (by omega) (Int.le_refl _) (by rw [hz2]; omega) (by omega)
  simpa [hz1, Value.cells] using hr

/-- How often each number stands in L. -/
def cf (L : List Int) : Nat → Value := fun x => .int .i64 ((L.count (x : Int) : Nat) : Int)
theorem used_new (w : World) (n : Nat) : RowOf (w.alloc (.cells (madeCells #[.int .i64 0] n) 3)) w.heap.size 3 n (cf []) :=
  ⟨_, Deep.blk_alloc_new w _, by rw [size_madeCells]; exact Nat.le_refl _, fun i hi => by simp [madeCells, hi, cf, Nat.mod_one]⟩
theorem used_more {w : World} {U n : Nat} {L : List Int} (h : RowOf w U 3 n (cf L)) {x : Nat} (hx : x < n) : RowOf (w.setCell ⟨U, x, none⟩ (.int .i64 (((L.count (x : Int) : Nat) : Int) + 1))) U 3 n (cf (L ++ [(x : Int)])) :=
  (h.set x _).congr fun j hj => by
    by_cases e : j = x
    · subst e
      simp [cf, List.count_append]
    · rw [if_neg e]
      have : ¬ (x : Int) = (j : Int) := by omega
      simp [cf, List.count_append, this]

theorem drop_kid {l : List Int} {j : Nat} (hj : j < l.length) : l.drop j = iAt l j :: l.drop (j + 1) := by
  rw [List.drop_eq_getElem_cons hj]
  simp [iAt, hj]
theorem nodesF_bad {l : List Nd} {n i : Nat} {used : List Int} {left : Int} (h : (manyI (ndAt l i).k).1 < 0 ∨ ((ndAt l i).kids.length : Int) < (manyI (ndAt l i).k).1 ∨ (manyI (ndAt l i).k).2 < ((ndAt l i).kids.length : Int) ∨ left < ((ndAt l i).s.size : Int)) : nodesF l (n + 1) i used left = none := by rw [nodesF, if_pos h]
theorem nodesF_good {l : List Nd} {n i : Nat} {used : List Int} {left : Int} (h : ¬ ((manyI (ndAt l i).k).1 < 0 ∨ ((ndAt l i).kids.length : Int) < (manyI (ndAt l i).k).1 ∨ (manyI (ndAt l i).k).2 < ((ndAt l i).kids.length : Int) ∨ left < ((ndAt l i).s.size : Int))) :
    nodesF l (n + 1) i used left = (kidsF l i (ndAt l i).k 0 (ndAt l i).kids used).bind fun used => nodesF l n (i + 1) used (left - ((ndAt l i).s.size : Int)) := by rw [nodesF, if_neg h]
theorem kidsF_bad {l : List Nd} {i : Nat} {k : Int} {j : Nat} {x : Int} {r used : List Int} (h : x < 0 ∨ (i : Int) ≤ x ∨ 0 < used.count x ∨ ¬ sortI (ndAt l x.toNat).k = kidI k j) : kidsF l i k j (x :: r) used = none := by rw [kidsF, if_pos h]
theorem kidsF_good {l : List Nd} {i : Nat} {k : Int} {j : Nat} {x : Int} {r used : List Int} (h : ¬ (x < 0 ∨ (i : Int) ≤ x ∨ 0 < used.count x ∨ ¬ sortI (ndAt l x.toNat).k = kidI k j)) : kidsF l i k j (x :: r) used = kidsF l i k (j + 1) r (used ++ [x]) := by rw [kidsF, if_neg h]

/-- What comes of the procedures' part. -/
def finF (l : List Nd) (r : Option (List Int)) : Bool := match r with
  | none => false
  | some used => (List.range l.length).all fun x => decide (used.count (x : Int) = 1)
theorem drop_proc {l : List Pr} {j : Nat} (hj : j < l.length) : l.drop j = prAt l j :: l.drop (j + 1) := by
  rw [List.drop_eq_getElem_cons hj]
  simp [prAt, hj]
theorem drop_text {l : List ByteArray} {j : Nat} (hj : j < l.length) : l.drop j = sAt l j :: l.drop (j + 1) := by
  rw [List.drop_eq_getElem_cons hj]
  simp [sAt, hj]
theorem procsF_bad {l : List Nd} {x : Pr} {r : List Pr} {used : List Int} {left : Int} (h : x.body < 0 ∨ (l.length : Int) ≤ x.body ∨ 0 < used.count x.body ∨ ¬ (ndAt l x.body.toNat).k = 27 ∨ 800 < x.ps.length ∨ left < (x.name.size : Int)) : procsF l (x :: r) used left = none := by rw [procsF, if_pos h]
theorem procsF_good {l : List Nd} {x : Pr} {r : List Pr} {used : List Int} {left : Int} (h : ¬ (x.body < 0 ∨ (l.length : Int) ≤ x.body ∨ 0 < used.count x.body ∨ ¬ (ndAt l x.body.toNat).k = 27 ∨ 800 < x.ps.length ∨ left < (x.name.size : Int))) :
    procsF l (x :: r) used left = (paramsF x.ps (left - (x.name.size : Int))).bind fun left => procsF l r (used ++ [x.body]) left := by rw [procsF, if_neg h]
/-- What comes of the nodes' part and the procedures' part. -/
def restF (l : List Nd) (p : List Pr) (r : Option (List Int × Int)) : Bool := match r.bind fun x => procsF l p x.1 x.2 with
  | none => false
  | some used => (List.range l.length).all fun x => decide (used.count (x : Int) = 1)
theorem treeF_rest {l : List Nd} {p : List Pr} (h : ¬ (4000 < l.length ∨ 800 < p.length)) : treeF l p = restF l p (nodesF l l.length 0 [] 24000) := by rw [treeF, if_neg h]; rfl

set_option maxHeartbeats 16000000 in
theorem l5tree_any (v u : Value) (l : List Nd) (p : List Pr) (w : World) {lo hi : Nat} (h : SetAt lo hi w v u l p) :
    Calls Try.prog 34 #[.agg #[v, u]] w fun e w' => e = .returned (.bool (treeF l p)) ∧ Below w.heap.size w w' := by
  obtain ⟨a, c, b, d, rfl, rfl⟩ := h.forms
  have bA : Below w.heap.size w (w.alloc (Obj.cells #[.slice a l.length c, .slice b p.length d] 36)) := (Below.refl _ _).alloc (Nat.le_refl _) _
  have y0 : (w.alloc (Obj.cells #[.slice a l.length c, .slice b p.length d] 36)).cell? ⟨w.heap.size, 0, none⟩ = some (.slice a l.length c) := by simp [go_sem]
  have y1 : (w.alloc (Obj.cells #[.slice a l.length c, .slice b p.length d] 36)).cell? ⟨w.heap.size, 1, none⟩ = some (.slice b p.length d) := by simp [go_sem]
  by_cases h1 : 4000 < l.length
  · have h1' : (4000 : Int) < (l.length : Int) := by omega
    have e : treeF l p = false := by rw [treeF, if_pos (.inl h1)]
    rw [e]
    go_enter Try.func34, Try.ntmps34
    go_wp2
    go_ret
    exact ⟨rfl, bA⟩
  by_cases h2 : 800 < p.length
  · have h1' : ¬ (4000 : Int) < (l.length : Int) := by omega
    have h2' : (800 : Int) < (p.length : Int) := by omega
    have e : treeF l p = false := by rw [treeF, if_pos (.inr h2)]
    rw [e]
    go_enter Try.func34, Try.ntmps34
    go_wp2
    go_ret
    exact ⟨rfl, bA⟩
  have h1' : ¬ (4000 : Int) < (l.length : Int) := by omega
  have h2' : ¬ (800 : Int) < (p.length : Int) := by omega
  have hT := treeF_rest (l := l) (p := p) (by omega)
  obtain ⟨TOP, hTOP⟩ : ∃ r, treeF l p = r := ⟨_, rfl⟩
  rw [hTOP] at hT ⊢
  clear hTOP
  change Hid _ at hT
  have hmk := mk_used l.length (by omega)
  go_enter Try.func34, Try.ntmps34
  go_wp2_with fail
  clear hmk
  have bU : Below w.heap.size w ((w.alloc (Obj.cells #[.slice a l.length c, .slice b p.length d] 36)).alloc (.cells (madeCells #[.int .i64 0] l.length) 3)) := bA.alloc bA.size _
  have hU0 := used_new (w.alloc (Obj.cells #[.slice a l.length c, .slice b p.length d] 36)) l.length
  have hzA : (w.alloc (Obj.cells #[.slice a l.length c, .slice b p.length d] 36)).heap.size = w.heap.size + 1 := by simp
  rw [hzA] at hU0
  obtain ⟨B, hB⟩ : ∃ b, b = w.heap.size := ⟨_, rfl⟩
  rw [← hB] at y0 y1 hU0 hzA ⊢
  have VU : ∀ x : World, Below (B + 1) ((w.alloc (Obj.cells #[.slice a l.length c, .slice b p.length d] 36))) x → x.cell? ⟨B, 0, none⟩ = some (.slice a l.length c) ∧ x.cell? ⟨B, 1, none⟩ = some (.slice b p.length d) ∧ Below w.heap.size w x := fun x hx => by
    rw [← hzA] at hx
    exact ⟨cell_stays hx y0, cell_stays hx y1, bA.trans (hx.mono bA.size)⟩
  have bU0 : Below (B + 1) (w.alloc (Obj.cells #[.slice a l.length c, .slice b p.length d] 36)) ((w.alloc (Obj.cells #[.slice a l.length c, .slice b p.length d] 36)).alloc (.cells (madeCells #[.int .i64 0] l.length) 3)) := by rw [← hzA]; exact (Below.refl _ _).alloc (Nat.le_refl _) _
  clear bA y0 y1 bU hzA hB
  generalize (w.alloc (Obj.cells #[.slice a l.length c, .slice b p.length d] 36)) = wA at *
  generalize wA.alloc (.cells (madeCells #[.int .i64 0] l.length) 3) = wU at *
  go_loopw [4, 5] (fun t4 t5 wr => ∃ (i : Nat) (used : List Int) (left : Int), t4 = .int .i64 left ∧ t5 = .int .i64 (i : Int) ∧ i ≤ l.length ∧ 0 ≤ left ∧ left ≤ 24000 ∧ Below (B + 1) wA wr ∧ RowOf wr (B + 1) 3 l.length (cf used) ∧ Hid (TOP = restF l p (nodesF l (l.length - i) i used left))) (fun _ t5 _ => l.length - (intOf t5).toNat)
  case atStart => exact ⟨0, [], 24000, rfl, rfl, Nat.zero_le _, by omega, by omega, bU0, hU0, hT⟩
  case round =>
    clear hT bU0 hU0
    rename World => wo
    obtain ⟨i, used, left, rfl, rfl, hi, hl0, hl1, hbo, hR, hT⟩ := hrel
    obtain ⟨y0, y1, bW⟩ := VU _ hbo
    by_cases hlt : i < l.length
    · obtain ⟨a1, c1, e1, hm1, hcc⟩ := id h.1
      cases e1
      obtain ⟨nb, off, rfl, hlo, hhi, hcl⟩ := hcc (by omega)
      obtain ⟨n0, n1, n2, ka, kc, n3, Ki⟩ := hcl i hlt
      replace n0 := cell_stays bW n0
      replace n1 := cell_stays bW n1
      replace n2 := cell_stays bW n2
      replace n3 := cell_stays bW n3
      obtain ⟨m, hm⟩ : ∃ m, l.length - i = m + 1 := ⟨l.length - i - 1, by omega⟩
      replace hT := hT.out; rw [hm] at hT; change Hid _ at hT
      have i0 : (0 : Int) ≤ (i : Int) := by omega
      have i1 : (i : Int) < (l.length : Int) := by omega
      have hz := hR.lt
      have bL : Below wo.heap.size wo (wo.alloc (Obj.cells #[.int .i64 (ndAt l i).k, .string (ndAt l i).s, .int .i64 (ndAt l i).n, .slice ka (ndAt l i).kids.length kc] 72)) := (Below.refl _ _).alloc (Nat.le_refl _) _
      have hbL : Below (B + 1) wA (wo.alloc (Obj.cells #[.int .i64 (ndAt l i).k, .string (ndAt l i).s, .int .i64 (ndAt l i).n, .slice ka (ndAt l i).kids.length kc] 72)) := hbo.trans (bL.mono (by omega))
      have q0 : (wo.alloc (Obj.cells #[.int .i64 (ndAt l i).k, .string (ndAt l i).s, .int .i64 (ndAt l i).n, .slice ka (ndAt l i).kids.length kc] 72)).cell? ⟨wo.heap.size, 0, none⟩ = some (.int .i64 (ndAt l i).k) := by simp [go_sem]
      have q1 : (wo.alloc (Obj.cells #[.int .i64 (ndAt l i).k, .string (ndAt l i).s, .int .i64 (ndAt l i).n, .slice ka (ndAt l i).kids.length kc] 72)).cell? ⟨wo.heap.size, 1, none⟩ = some (.string (ndAt l i).s) := by simp [go_sem]
      have q3 : (wo.alloc (Obj.cells #[.int .i64 (ndAt l i).k, .string (ndAt l i).s, .int .i64 (ndAt l i).n, .slice ka (ndAt l i).kids.length kc] 72)).cell? ⟨wo.heap.size, 3, none⟩ = some (.slice ka (ndAt l i).kids.length kc) := by simp [go_sem]
      have hRL := hR.of_block (w' := wo.alloc (Obj.cells #[.int .i64 (ndAt l i).k, .string (ndAt l i).s, .int .i64 (ndAt l i).n, .slice ka (ndAt l i).kids.length kc] 72)) (bL.block _ hz)
      have hbad : ((manyI (ndAt l i).k).1 < 0 ∨ ((ndAt l i).kids.length : Int) < (manyI (ndAt l i).k).1 ∨ (manyI (ndAt l i).k).2 < ((ndAt l i).kids.length : Int) ∨ left < ((ndAt l i).s.size : Int)) → TOP = false := fun hc => by rw [hT.out, nodesF_bad hc]; rfl
      have hgood : ¬ ((manyI (ndAt l i).k).1 < 0 ∨ ((ndAt l i).kids.length : Int) < (manyI (ndAt l i).k).1 ∨ (manyI (ndAt l i).k).2 < ((ndAt l i).kids.length : Int) ∨ left < ((ndAt l i).s.size : Int)) → Hid (TOP = restF l p ((kidsF l i (ndAt l i).k 0 (ndAt l i).kids used).bind fun used => nodesF l m (i + 1) used (left - ((ndAt l i).s.size : Int)))) := fun hc => by show _ = _; rw [hT.out, nodesF_good hc]
      change Hid _ at hcl
      clear hT hcc
      have hmany := l5many_any (ndAt l i).k
      generalize manyI (ndAt l i).k = mm at *
      obtain ⟨mA, mB⟩ := mm
      simp only at hmany hbad hgood
      have BW := bW.trans (bL.mono bW.size)
      by_cases hc1 : mA < 0
      · have e := hbad (.inl hc1)
        subst e
        go_wp2_with fail
        refine (hmany _).mono ?_
        rintro er w2 ⟨rfl, rfl⟩
        go_wp2
        go_ret
        exact ⟨rfl, BW⟩
      by_cases hc2 : ((ndAt l i).kids.length : Int) < mA
      · have e := hbad (.inr (.inl hc2))
        subst e
        go_wp2_with fail
        refine (hmany _).mono ?_
        rintro er w2 ⟨rfl, rfl⟩
        go_wp2
        go_ret
        exact ⟨rfl, BW⟩
      by_cases hc3 : mB < ((ndAt l i).kids.length : Int)
      · have e := hbad (.inr (.inr (.inl hc3)))
        subst e
        go_wp2_with fail
        refine (hmany _).mono ?_
        rintro er w2 ⟨rfl, rfl⟩
        go_wp2
        go_ret
        exact ⟨rfl, BW⟩
      by_cases hc4 : left < ((ndAt l i).s.size : Int)
      · have e := hbad (.inr (.inr (.inr hc4)))
        subst e
        go_wp2_with fail
        refine (hmany _).mono ?_
        rintro er w2 ⟨rfl, rfl⟩
        go_wp2
        go_ret
        exact ⟨rfl, BW⟩
      have hT := hgood (by omega)
      clear hgood hbad
      go_wp2_with fail
      refine (hmany _).mono ?_
      rintro er w2 ⟨rfl, rfl⟩
      clear hmany
      go_wp2_with fail
      obtain ⟨LB, hLB⟩ : ∃ b, b = wo.heap.size := ⟨_, rfl⟩
      rw [← hLB] at q0 q1 q3 hz ⊢
      clear hLB bL n0 n1 n2 n3 hR y0 y1 bW hbo
      generalize wo.alloc (Obj.cells #[.int .i64 (ndAt l i).k, .string (ndAt l i).s, .int .i64 (ndAt l i).n, .slice ka (ndAt l i).kids.length kc] 72) = wL at *
      have hkm : (ndAt l i).kids.length ≤ 9223372036854775807 := by obtain ⟨_, _, _, hm, _⟩ := Ki; unfold maxLen at hm; omega
      go_loopw [9] (fun t9 wr => ∃ (j : Nat) (used : List Int), t9 = .int .i64 (j : Int) ∧ j ≤ (ndAt l i).kids.length ∧ Below (B + 1) wA wr ∧ RowOf wr (B + 1) 3 l.length (cf used) ∧ wr.cell? ⟨LB, 0, none⟩ = some (.int .i64 (ndAt l i).k) ∧ wr.cell? ⟨LB, 3, none⟩ = some (.slice ka (ndAt l i).kids.length kc) ∧ Hid (TOP = restF l p ((kidsF l i (ndAt l i).k j ((ndAt l i).kids.drop j) used).bind fun used => nodesF l m (i + 1) used (left - ((ndAt l i).s.size : Int))))) (fun t9 _ => (ndAt l i).kids.length - (intOf t9).toNat)
      case atStart => exact ⟨0, used, rfl, Nat.zero_le _, hbL, hRL, q0, q3, hT⟩
      case round =>
        clear hT q0 q3 q1 hRL hbL BW
        rename World => wi
        obtain ⟨j, used', rfl, hj, hbi, hR, q0, q3, hT⟩ := hrel
        obtain ⟨y0, y1, bW⟩ := VU _ hbi
        by_cases hjl : j < (ndAt l i).kids.length
        · obtain ⟨ka', kc', e2, hm2, hkk⟩ := id Ki
          cases e2
          obtain ⟨kb, koff, rfl, hklo, hkhi, hkc⟩ := hkk (by omega)
          have kj := cell_stays bW (hkc j hjl)
          have j0 : (0 : Int) ≤ (j : Int) := by omega
          have j1 : (j : Int) < ((ndAt l i).kids.length : Int) := by omega
          clear hkk hkc
          replace hT := hT.out
          rw [drop_kid hjl] at hT
          generalize iAt (ndAt l i).kids j = xv at *
          have hbad : (xv < 0 ∨ (i : Int) ≤ xv ∨ 0 < used'.count xv ∨ ¬ sortI (ndAt l xv.toNat).k = kidI (ndAt l i).k j) → TOP = false := fun hc => by rw [hT, kidsF_bad hc]; rfl
          have hgood : ¬ (xv < 0 ∨ (i : Int) ≤ xv ∨ 0 < used'.count xv ∨ ¬ sortI (ndAt l xv.toNat).k = kidI (ndAt l i).k j) → Hid (TOP = restF l p ((kidsF l i (ndAt l i).k (j + 1) ((ndAt l i).kids.drop (j + 1)) (used' ++ [xv])).bind fun used => nodesF l m (i + 1) used (left - ((ndAt l i).s.size : Int)))) := fun hc => by show _ = _; rw [hT, kidsF_good hc]
          clear hT
          by_cases x1 : xv < 0
          · have d1 : decide (xv < 0) = true := decide_eq_true x1
            have e := hbad (.inl x1)
            subst e
            go_wp2_with fail
            refine wp_region_quiet_below (by kernel_rfl) (by kernel_rfl) ?_
            repeat (go_big_quiet_step (first | (go_at_call 55; exact Calls.regrown_of (l5sort_b _ _)) | (go_at_call 56; exact Calls.regrown_of (l5kid_b _ _ _))))
            refine wpQuiet_nil ?_
            intro w4 hw4
            obtain ⟨⟨dq, osq⟩, hw5⟩ := hw4
            have hb4 : Below _ _ w4 := hw5 ▸ below_regrown _ dq osq
            clear hw5
            go_wp2
            go_ret
            exact ⟨rfl, bW.trans (hb4.mono bW.size)⟩
          have d1 : decide (xv < 0) = false := decide_eq_false x1
          by_cases x2 : (i : Int) ≤ xv
          · have d2 : decide ((i : Int) ≤ xv) = true := decide_eq_true x2
            have e := hbad (.inr (.inl x2))
            subst e
            go_wp2_with fail
            refine wp_region_quiet_below (by kernel_rfl) (by kernel_rfl) ?_
            repeat (go_big_quiet_step (first | (go_at_call 55; exact Calls.regrown_of (l5sort_b _ _)) | (go_at_call 56; exact Calls.regrown_of (l5kid_b _ _ _))))
            refine wpQuiet_nil ?_
            intro w4 hw4
            obtain ⟨⟨dq, osq⟩, hw5⟩ := hw4
            have hb4 : Below _ _ w4 := hw5 ▸ below_regrown _ dq osq
            clear hw5
            go_wp2
            go_ret
            exact ⟨rfl, bW.trans (hb4.mono bW.size)⟩
          have d2 : decide ((i : Int) ≤ xv) = false := decide_eq_false x2
          obtain ⟨xn, rfl⟩ := Int.eq_ofNat_of_zero_le (show 0 ≤ xv by omega)
          have x0 : (0 : Int) ≤ (xn : Int) := by omega
          have x3 : (xn : Int) < (l.length : Int) := by omega
          have x2n : ¬ i ≤ xn := by omega
          have x2m : xn < i := by omega
          have d2n : decide (i ≤ xn) = false := decide_eq_false x2n
          have u0 := hR.cell (show xn < l.length by omega)
          have uf := hR.frozen xn
          simp only [cf] at u0
          have r0 := cell_regrown y0
          have r1 := cell_regrown u0
          have r2 := cell_regrown q0
          by_cases x4 : 0 < used'.count (xn : Int)
          · have x4' : (0 : Int) < ((used'.count (xn : Int) : Nat) : Int) := by omega
            have d3 : decide ((0 : Int) < ((used'.count (xn : Int) : Nat) : Int)) = true := decide_eq_true x4'
            have e := hbad (.inr (.inr (.inl x4)))
            subst e
            generalize used'.count (xn : Int) = cc at *
            go_wp2_with fail
            refine wp_region_quiet_below (by kernel_rfl) (by kernel_rfl) ?_
            repeat (go_big_quiet_step (first | (go_at_call 55; exact Calls.regrown_of (l5sort_b _ _)) | (go_at_call 56; exact Calls.regrown_of (l5kid_b _ _ _))))
            refine wpQuiet_nil ?_
            intro w4 hw4
            obtain ⟨⟨dq, osq⟩, hw5⟩ := hw4
            have hb4 : Below _ _ w4 := hw5 ▸ below_regrown _ dq osq
            clear hw5
            go_wp2
            go_ret
            exact ⟨rfl, bW.trans (hb4.mono bW.size)⟩
          have x4' : ¬ (0 : Int) < ((used'.count (xn : Int) : Nat) : Int) := by omega
          have d3 : decide ((0 : Int) < ((used'.count (xn : Int) : Nat) : Int)) = false := decide_eq_false x4'
          have hcz : used'.count (xn : Int) = 0 := by omega
          have hxt : ((xn : Int)).toNat = xn := by simp
          rw [hxt] at hbad hgood
          obtain ⟨kx0, _⟩ := hcl.out xn (by omega)
          have kx := cell_stays bW kx0
          have r3 := cell_regrown kx
          rw [hcz] at u0 r1
          clear kx0 hxt d3 x4'
          by_cases x5 : sortI (ndAt l xn).k = kidI (ndAt l i).k j
          · have hT := hgood (by omega)
            clear hbad hgood
            have hR2 := fun (x : World) (hx : Below wi.heap.size wi x) => used_more (hR.of_block (w' := x) (hx.block _ hR.lt)) (show xn < l.length by omega)
            rw [hcz] at hR2
            go_wp2_with fail
            refine wp_region_quiet_below (by kernel_rfl) (by kernel_rfl) ?_
            repeat (go_big_quiet_step (first | (go_at_call 55; exact Calls.regrown_of (l5sort_b _ _)) | (go_at_call 56; exact Calls.regrown_of (l5kid_b _ _ _))))
            refine wpQuiet_nil ?_
            intro w4 hw4
            obtain ⟨⟨dq, osq⟩, hw5⟩ := hw4
            have hb4 : Below _ _ w4 := hw5 ▸ below_regrown _ dq osq
            clear hw5
            have z0 := cell_stays hb4 u0
            have zf : w4.frozen? ⟨B + 1, xn, none⟩ = false := by rw [hb4.frozen (by exact hR.lt)]; exact uf
            have z1 := cell_stays hb4 q0
            have z3 := cell_stays hb4 q3
            have hR3 := hR2 _ hb4
            have hbj : Below (B + 1) wA w4 := hbi.trans (hb4.mono (by have := hR.lt; omega))
            have hb5 : Below (B + 1) wA (w4.setCell ⟨B + 1, xn, none⟩ (.int .i64 (((0 : Nat) : Int) + 1))) := hbj.setCell (by exact Nat.le_refl _) _
            have hne : LB ≠ B + 1 := by omega
            have z1' : (w4.setCell ⟨B + 1, xn, none⟩ (.int .i64 (((0 : Nat) : Int) + 1))).cell? ⟨LB, 0, none⟩ = some (.int .i64 (ndAt l i).k) := cell_same (Below.heap_setCell _ _ _ _ hne) z1
            have z3' : (w4.setCell ⟨B + 1, xn, none⟩ (.int .i64 (((0 : Nat) : Int) + 1))).cell? ⟨LB, 3, none⟩ = some (.slice (some ⟨kb, koff, none⟩) (ndAt l i).kids.length kc) := cell_same (Below.heap_setCell _ _ _ _ hne) z3
            clear r0 r1 r2 r3 hR2 hR q0 q3 kx u0 uf x5 hb4 hbj z1 z3
            go_wp2
            go_roundw
            case rel => exact ⟨j + 1, used' ++ [(xn : Int)], by go_num, by omega, hb5, hR3, z1', z3', hT⟩
            case measure => simp [intOf]; omega
          · have e := hbad (.inr (.inr (.inr x5)))
            subst e
            go_wp2_with fail
            refine wp_region_quiet_below (by kernel_rfl) (by kernel_rfl) ?_
            repeat (go_big_quiet_step (first | (go_at_call 55; exact Calls.regrown_of (l5sort_b _ _)) | (go_at_call 56; exact Calls.regrown_of (l5kid_b _ _ _))))
            refine wpQuiet_nil ?_
            intro w4 hw4
            obtain ⟨⟨dq, osq⟩, hw5⟩ := hw4
            have hb4 : Below _ _ w4 := hw5 ▸ below_regrown _ dq osq
            clear hw5
            go_wp2
            go_ret
            exact ⟨rfl, bW.trans (hb4.mono bW.size)⟩
        · have hje : j = (ndAt l i).kids.length := by omega
          have hjl' : ¬ (j : Int) < ((ndAt l i).kids.length : Int) := by omega
          replace hT := hT.out
          rw [hje, List.drop_length, kidsF, Option.bind_some] at hT
          have hm2 : l.length - (i + 1) = m := by omega
          rw [← hm2] at hT
          change Hid _ at hT
          clear hje hm2 hm
          go_wp2
          go_roundw
          case rel => exact ⟨i + 1, used', left - ((ndAt l i).s.size : Int), rfl, by go_num, by omega, by omega, by omega, hbi, hR, hT⟩
          case measure => simp [intOf]; omega
    · have hie : i = l.length := by omega
      have hlt' : ¬ (i : Int) < (l.length : Int) := by omega
      replace hT := hT.out
      rw [show l.length - i = 0 from by omega, nodesF] at hT
      have hT2 : Hid (TOP = finF l (procsF l (p.drop 0) used left)) := by show _ = _; rw [hT, List.drop_zero]; rfl
      clear hT hie y0 y1 bW
      go_wp2_with fail
      go_loopw [4, 11] (fun t4 t11 wr => ∃ (k : Nat) (used : List Int) (left : Int), t4 = .int .i64 left ∧ t11 = .int .i64 (k : Int) ∧ k ≤ p.length ∧ 0 ≤ left ∧ left ≤ 24000 ∧ Below (B + 1) wA wr ∧ RowOf wr (B + 1) 3 l.length (cf used) ∧ Hid (TOP = finF l (procsF l (p.drop k) used left))) (fun _ t11 _ => p.length - (intOf t11).toNat)
      case atStart => exact ⟨0, used, left, rfl, rfl, Nat.zero_le _, hl0, hl1, hbo, hR, hT2⟩
      case round =>
        clear hT2 hR hbo hl0 hl1 hlt hlt' hi
        rename World => wi
        obtain ⟨k, used', left', rfl, rfl, hk, hl0, hl1, hbi, hR, hT⟩ := hrel
        obtain ⟨y0, y1, bW⟩ := VU _ hbi
        by_cases hkl : k < p.length
        · obtain ⟨a1, c1, e1, hm1, hcc⟩ := id h.2
          cases e1
          obtain ⟨pb, off, rfl, hlo, hhi, hcl⟩ := hcc (by omega)
          obtain ⟨n0, ⟨ka, kc, n1, Ki⟩, n2⟩ := hcl k hkl
          replace n0 := cell_stays bW n0
          replace n1 := cell_stays bW n1
          replace n2 := cell_stays bW n2
          have k0 : (0 : Int) ≤ (k : Int) := by omega
          have k1 : (k : Int) < (p.length : Int) := by omega
          have hz := hR.lt
          replace hT := hT.out
          rw [drop_proc hkl] at hT
          have hbad : ((prAt p k).body < 0 ∨ (l.length : Int) ≤ (prAt p k).body ∨ 0 < used'.count (prAt p k).body ∨ ¬ (ndAt l (prAt p k).body.toNat).k = 27 ∨ 800 < (prAt p k).ps.length ∨ left' < ((prAt p k).name.size : Int)) → TOP = false := fun hc => by rw [hT, procsF_bad hc]; rfl
          have hgood : ¬ ((prAt p k).body < 0 ∨ (l.length : Int) ≤ (prAt p k).body ∨ 0 < used'.count (prAt p k).body ∨ ¬ (ndAt l (prAt p k).body.toNat).k = 27 ∨ 800 < (prAt p k).ps.length ∨ left' < ((prAt p k).name.size : Int)) → Hid (TOP = finF l ((paramsF (prAt p k).ps (left' - ((prAt p k).name.size : Int))).bind fun left => procsF l (p.drop (k + 1)) (used' ++ [(prAt p k).body]) left)) := fun hc => by show _ = _; rw [hT, procsF_good hc]
          clear hT hcc hcl
          have bL : Below wi.heap.size wi (wi.alloc (Obj.cells #[.string (prAt p k).name, .slice ka (prAt p k).ps.length kc, .int .i64 (prAt p k).body] 73)) := (Below.refl _ _).alloc (Nat.le_refl _) _
          have hbL : Below (B + 1) wA (wi.alloc (Obj.cells #[.string (prAt p k).name, .slice ka (prAt p k).ps.length kc, .int .i64 (prAt p k).body] 73)) := hbi.trans (bL.mono (by omega))
          have BW := bW.trans (bL.mono bW.size)
          have q0 : (wi.alloc (Obj.cells #[.string (prAt p k).name, .slice ka (prAt p k).ps.length kc, .int .i64 (prAt p k).body] 73)).cell? ⟨wi.heap.size, 0, none⟩ = some (.string (prAt p k).name) := by simp [go_sem]
          have q1 : (wi.alloc (Obj.cells #[.string (prAt p k).name, .slice ka (prAt p k).ps.length kc, .int .i64 (prAt p k).body] 73)).cell? ⟨wi.heap.size, 1, none⟩ = some (.slice ka (prAt p k).ps.length kc) := by simp [go_sem]
          have q2 : (wi.alloc (Obj.cells #[.string (prAt p k).name, .slice ka (prAt p k).ps.length kc, .int .i64 (prAt p k).body] 73)).cell? ⟨wi.heap.size, 2, none⟩ = some (.int .i64 (prAt p k).body) := by simp [go_sem]
          have q0' : ∀ x : World, Below wi.heap.size.succ (wi.alloc (Obj.cells #[.string (prAt p k).name, .slice ka (prAt p k).ps.length kc, .int .i64 (prAt p k).body] 73)) x → True := fun _ _ => trivial
          have z0 := cell_stays bL y0
          have hRL := hR.of_block (w' := wi.alloc (Obj.cells #[.string (prAt p k).name, .slice ka (prAt p k).ps.length kc, .int .i64 (prAt p k).body] 73)) (bL.block _ hz)
          have hpm : (prAt p k).ps.length ≤ 9223372036854775807 := by obtain ⟨_, _, _, hm, _⟩ := Ki; unfold maxLen at hm; omega
          clear q0'
          generalize hxv : (prAt p k).body = xv at *
          by_cases x1 : xv < 0
          · skip
            have e := hbad (.inl x1)
            subst e
            go_wp2
            go_ret
            exact ⟨rfl, BW⟩
          by_cases x2 : (l.length : Int) ≤ xv
          · skip
            have e := hbad (.inr (.inl x2))
            subst e
            go_wp2
            go_ret
            exact ⟨rfl, BW⟩
          obtain ⟨xn, rfl⟩ := Int.eq_ofNat_of_zero_le (show 0 ≤ xv by omega)
          have x0 : (0 : Int) ≤ (xn : Int) := by omega
          have x3 : (xn : Int) < (l.length : Int) := by omega
          have x2n : ¬ l.length ≤ xn := by omega
          have u0 := hRL.cell (show xn < l.length by omega)
          have uf := hRL.frozen xn
          simp only [cf] at u0
          by_cases x4 : 0 < used'.count (xn : Int)
          · have x4' : (0 : Int) < ((used'.count (xn : Int) : Nat) : Int) := by omega
            have e := hbad (.inr (.inr (.inl x4)))
            subst e
            generalize used'.count (xn : Int) = cc at *
            go_wp2
            go_ret
            exact ⟨rfl, BW⟩
          have hcz : used'.count (xn : Int) = 0 := by omega
          have hxt : ((xn : Int)).toNat = xn := by simp
          rw [hxt] at hbad hgood
          rw [hcz] at u0
          obtain ⟨a2, c2, e2, _, hcc2⟩ := id h.1
          cases e2
          obtain ⟨nb, noff, rfl, _, _, hcl2⟩ := hcc2 (by omega)
          obtain ⟨kx0, _⟩ := hcl2 xn (by omega)
          have kx := cell_stays BW kx0
          clear kx0 hcl2 hcc2 hxt
          by_cases x5 : (ndAt l xn).k = 27
          · by_cases x6 : 800 < (prAt p k).ps.length
            · have x6' : (800 : Int) < ((prAt p k).ps.length : Int) := by omega
              have e := hbad (.inr (.inr (.inr (.inr (.inl x6)))))
              subst e
              go_wp2
              go_ret
              exact ⟨rfl, BW⟩
            have x6' : ¬ (800 : Int) < ((prAt p k).ps.length : Int) := by omega
            by_cases x7 : left' < ((prAt p k).name.size : Int)
            · skip
              have e := hbad (.inr (.inr (.inr (.inr (.inr x7)))))
              subst e
              go_wp2
              go_ret
              exact ⟨rfl, BW⟩
            have hT := hgood (by omega)
            clear hbad hgood
            have hR1 := used_more hR (show xn < l.length by omega)
            rw [hcz] at hR1
            simp only [Int.natCast_zero, Int.zero_add] at hR1
            have hR2 := hR1.of_block (w' := (wi.setCell ⟨B + 1, xn, none⟩ (.int .i64 1)).alloc (Obj.cells #[.string (prAt p k).name, .slice ka (prAt p k).ps.length kc, .int .i64 (xn : Int)] 73)) (Below.heap_alloc _ _ _ hR1.lt)
            have hb4 : Below (B + 1) wA (wi.setCell ⟨B + 1, xn, none⟩ (.int .i64 1)) := hbi.setCell (by exact Nat.le_refl _) _
            have hb5 : Below (B + 1) wA ((wi.setCell ⟨B + 1, xn, none⟩ (.int .i64 1)).alloc (Obj.cells #[.string (prAt p k).name, .slice ka (prAt p k).ps.length kc, .int .i64 (xn : Int)] 73)) := hb4.alloc (by have := hR1.lt; omega) _
            have q1' : ((wi.setCell ⟨B + 1, xn, none⟩ (.int .i64 1)).alloc (Obj.cells #[.string (prAt p k).name, .slice ka (prAt p k).ps.length kc, .int .i64 (xn : Int)] 73)).cell? ⟨wi.heap.size, 1, none⟩ = some (.slice ka (prAt p k).ps.length kc) := by simp [go_sem]
            clear hR1 hb4
            go_wp2_with fail
            obtain ⟨PB, hPB⟩ : ∃ b, b = wi.heap.size := ⟨_, rfl⟩
            rw [← hPB] at q1' ⊢
            clear hPB q0 q1 q2 bL hbL BW hR hRL y0 y1 bW hbi n0 n1 n2 z0 u0 uf kx hz
            generalize (wi.setCell ⟨B + 1, xn, none⟩ (.int .i64 1)).alloc (Obj.cells #[.string (prAt p k).name, .slice ka (prAt p k).ps.length kc, .int .i64 (xn : Int)] 73) = wP at *
            go_loopw [4, 13] (fun t4 t13 wr => ∃ (j : Nat) (left2 : Int), t4 = .int .i64 left2 ∧ t13 = .int .i64 (j : Int) ∧ j ≤ (prAt p k).ps.length ∧ 0 ≤ left2 ∧ left2 ≤ 24000 ∧ Below (B + 1) wA wr ∧ RowOf wr (B + 1) 3 l.length (cf (used' ++ [(xn : Int)])) ∧ wr.cell? ⟨PB, 1, none⟩ = some (.slice ka (prAt p k).ps.length kc) ∧ Hid (TOP = finF l ((paramsF ((prAt p k).ps.drop j) left2).bind fun left => procsF l (p.drop (k + 1)) (used' ++ [(xn : Int)]) left))) (fun _ t13 _ => (prAt p k).ps.length - (intOf t13).toNat)
            case atStart => exact ⟨0, _, rfl, rfl, Nat.zero_le _, by omega, by omega, hb5, hR2, q1', hT⟩
            case round =>
              clear hT q1' hR2 hb5 hl0 hl1
              rename World => wj
              obtain ⟨j, left2, rfl, rfl, hj, hl0, hl1, hbj, hR, q1, hT⟩ := hrel
              obtain ⟨y0, y1, bW⟩ := VU _ hbj
              by_cases hjl : j < (prAt p k).ps.length
              · obtain ⟨ka', kc', e3, hm3, hkk⟩ := id Ki
                cases e3
                obtain ⟨kb, koff, rfl, hklo, hkhi, hkc⟩ := hkk (by omega)
                have kj := cell_stays bW (hkc j hjl)
                have j0 : (0 : Int) ≤ (j : Int) := by omega
                have j1 : (j : Int) < ((prAt p k).ps.length : Int) := by omega
                replace hT := hT.out
                rw [drop_text hjl, paramsF] at hT
                clear hkc hkk
                by_cases hx : left2 < ((sAt (prAt p k).ps j).size : Int)
                · rw [if_pos hx] at hT
                  have e : TOP = false := by rw [hT]; rfl
                  clear hT
                  subst e
                  go_wp2
                  go_ret
                  exact ⟨rfl, bW⟩
                · rw [if_neg hx] at hT
                  change Hid _ at hT
                  go_wp2
                  go_roundw
                  case rel => exact ⟨j + 1, left2 - ((sAt (prAt p k).ps j).size : Int), rfl, by go_num, by omega, by omega, by omega, hbj, hR, q1, hT⟩
                  case measure => simp [intOf]; omega
              · have hje : j = (prAt p k).ps.length := by omega
                have hjl' : ¬ (j : Int) < ((prAt p k).ps.length : Int) := by omega
                replace hT := hT.out
                rw [hje, List.drop_length, paramsF, Option.bind_some] at hT
                change Hid _ at hT
                clear hje
                go_wp2
                go_roundw
                case rel => exact ⟨k + 1, used' ++ [(xn : Int)], left2, rfl, by go_num, by omega, hl0, hl1, hbj, hR, hT⟩
                case measure => simp [intOf]; omega
          · skip
            have e := hbad (.inr (.inr (.inr (.inl x5))))
            subst e
            go_wp2
            go_ret
            exact ⟨rfl, BW⟩
        · have hke : k = p.length := by omega
          have hkl' : ¬ (k : Int) < (p.length : Int) := by omega
          replace hT := hT.out
          rw [hke, List.drop_length, procsF] at hT
          change Hid _ at hT
          clear hke
          go_wp2_with fail
          go_loopw [14] (fun t14 wr => ∃ m : Nat, t14 = .int .i64 (m : Int) ∧ m ≤ l.length ∧ wr = wi ∧ ∀ x, x < m → used'.count (x : Int) = 1) (fun t14 _ => l.length - (intOf t14).toNat)
          case atStart => exact ⟨0, rfl, Nat.zero_le _, rfl, fun x hx => absurd hx (Nat.not_lt_zero _)⟩
          case round =>
            rename World => wf
            obtain ⟨m, rfl, hm, rfl, hall⟩ := hrel
            by_cases hml : m < l.length
            · have m0 : (0 : Int) ≤ (m : Int) := by omega
              have m1 : (m : Int) < (l.length : Int) := by omega
              have u0 := hR.cell hml
              simp only [cf] at u0
              by_cases hx : used'.count (m : Int) = 1
              · have hall2 : ∀ x, x < m + 1 → used'.count (x : Int) = 1 := fun x hx2 => by
                  by_cases e : x = m
                  · subst e; exact hx
                  · exact hall x (by omega)
                rw [hx] at u0
                clear hall hx
                go_wp2
                go_roundw
                case rel => exact ⟨m + 1, by go_num, by omega, trivial, hall2⟩
                case measure => simp [intOf]; omega
              · have e : TOP = false := by
                  rw [hT.out]
                  show ((List.range l.length).all fun x => decide (used'.count (x : Int) = 1)) = false
                  rw [List.all_eq_false]
                  exact ⟨m, List.mem_range.2 hml, by simpa using hx⟩
                have hx' : ¬ ((used'.count (m : Int) : Nat) : Int) = 1 := by omega
                clear hT hx
                subst e
                generalize used'.count (m : Int) = cc at *
                go_wp2
                go_ret
                exact ⟨rfl, bW⟩
            · have hml' : ¬ (m : Int) < (l.length : Int) := by omega
              have e : TOP = true := by
                rw [hT.out]
                show ((List.range l.length).all fun x => decide (used'.count (x : Int) = 1)) = true
                rw [List.all_eq_true]
                intro x hx
                rw [List.mem_range] at hx
                simpa using hall x (by omega)
              clear hT hall
              subst e
              go_wp2
              go_ret
              exact ⟨rfl, bW⟩

end Go.Proofs.Ytjikmpdgednlaaa
