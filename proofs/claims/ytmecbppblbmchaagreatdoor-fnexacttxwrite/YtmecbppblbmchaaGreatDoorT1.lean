import Derived.Test.YtmecbppblbmchaaGreatDoorX0
import Derived.Test.YtmecbppblbmchaaGreatDoorAppSeq
import Derived.Lib.AppendZerosOnto
import Derived.Laws.NewBlocks
import Derived.Test.YtmecbppblbmchaaGreatDoorBub
import Derived.Test.YtmecbppblbmchaaGreatDoorM0
/- slices.Insert of one row, where the list has just the room that it needs: a new list. -/
namespace Go.Proofs.YtmecbppblbmchaaGreatDoor
open Go.ChangeShapes Go.WideShapes Go.ChangeAt Go.RowKit Go.Sort
set_option linter.unusedVariables false
set_option maxRecDepth 100000
attribute [local go_sem ↓] Go.wp_at_zero Go.wp_at_succ

theorem infoRowU : (Tryz.prog.info? 111).map (fun i => (i.zero, i.size, i.bytes)) = some (some (.agg #[.int .i64 0, .int .i64 0, .int .i64 0]), 3, 24) := by kernel_rfl
theorem flat_take (l : List Rw) (i : Nat) : (flat l).take (i * 3) = flat (l.take i) := by
  induction l generalizing i with
  | nil => simp [flat]
  | cons x l ih =>
    cases i with
    | zero => simp [flat]
    | succ i =>
      have := ih i
      simp only [flat, List.flatMap_cons, List.take_succ_cons, cells3] at this ⊢
      rw [show (i + 1) * 3 = i * 3 + 3 by omega]
      simp [this]
theorem flat_drop (l : List Rw) (i : Nat) : (flat l).drop (i * 3) = flat (l.drop i) := by
  induction l generalizing i with
  | nil => simp [flat]
  | cons x l ih =>
    cases i with
    | zero => simp [flat]
    | succ i =>
      have := ih i
      simp only [flat, List.flatMap_cons, List.drop_succ_cons, cells3] at this ⊢
      rw [show (i + 1) * 3 = i * 3 + 3 by omega]
      simp [this]
theorem flat_append (a b : List Rw) : flat (a ++ b) = flat a ++ flat b := by simp [flat]
theorem flat_oneU (l : List Rw) : ∀ u ∈ flat l, u.oneCell' = true := fun u hu => by
  simp only [flat, List.mem_flatMap, cells3] at hu
  obtain ⟨x, _, hx⟩ := hu
  simp at hx
  rcases hx with rfl | rfl | rfl <;> rfl

set_option maxHeartbeats 4000000 in
theorem insertRow_grow (g vb : Nat) (l : List Rw) (x : Rw) (i : Nat) (w : World) {base : Nat} (hi : i < l.length) (hn : l.length ≤ 1048576)
    (h : w.ownsRow base 111 3 (.slice (some ⟨g, 0, none⟩) l.length l.length) l.length (flat l)) (hv : w.heap[vb]? = some (.cells (cells3 x).toArray 111 (0, 0))) :
    Calls Tryz.prog 85 #[.slice (some ⟨g, 0, none⟩) l.length l.length, .int .i64 (i : Int), .slice (some ⟨vb, 0, none⟩) 1 1] w fun e w' =>
      ∃ c, e = .returned (.slice (some ⟨w.heap.size, 0, none⟩) (l.length + 1) c) ∧ w'.ownsRow w.heap.size 111 3 (.slice (some ⟨w.heap.size, 0, none⟩) (l.length + 1) c) (l.length + 1) (flat (l.take i ++ x :: l.drop i)) ∧ Below w.heap.size w w' := by
  obtain ⟨i0, hi0, hz0, hzs, hzb⟩ := info_parts infoRowU
  have hgw : g < w.heap.size := (owns_ltM h rfl).2
  have hvw : vb < w.heap.size := by
    rcases Nat.lt_or_ge vb w.heap.size with h' | h'
    · exact h'
    · rw [Array.getElem?_eq_none h'] at hv; cases hv
  have hfl := flat_length l
  have hcell : ∀ j u, (flat l)[j]? = some u → w.cell? ⟨g, j, none⟩ = some u := fun j u hu => by
    obtain ⟨_, e, _, hc, _⟩ := owns_cell h hu
    cases e
    exact hc
  have hsz : (Tryz.prog.info? 111).map (·.size) = some 3 := by rw [hi0]; simp [hzs]
  have hold : (Builtin.firstCells i0.size i (.slice (some ⟨g, 0, none⟩) i l.length)).run Tryz.prog w.drew = .ok ((flat l).take (i * 3)).toArray w.drew := by
    rw [hzs]
    exact run_firstCells_some w.drew 3 i ⟨g, 0, none⟩ i l.length ((flat l).take (i * 3)) (by rw [List.length_take]; omega) (fun j v hj => by
      rw [add_at, Nat.zero_add]
      rw [List.getElem?_take] at hj
      split at hj
      · exact hcell j v hj
      · cases hj)
  have hkk : (l.length : Int) + 1 - (i : Int) = ((l.length + 1 - i : Nat) : Int) := by omega
  have hik : i + (l.length + 1 - i) = l.length + 1 := by omega
  have hrz : ∀ ty, (Builtin.append_ #[95, 3] ty #[.slice (some ⟨g, 0, none⟩) i l.length, .int .i64 ((l.length : Int) + 1 - (i : Int))]).run Tryz.prog w =
      .ok (.slice (some ⟨w.heap.size, 0, none⟩) (l.length + 1) (grownCap w (l.length + 1) l.length 111)) (w.drew.alloc (.cells (((flat l).take (i * 3)).toArray ++ Builtin.zeroCells (Value.agg #[.int .i64 0, .int .i64 0, .int .i64 0]).cells (l.length + 1 - i) ++ Builtin.zeroCells (Value.agg #[.int .i64 0, .int .i64 0, .int .i64 0]).cells (grownCap w (l.length + 1) l.length 111 - (l.length + 1))) 111)) := fun ty => by
    have h := Lib.run_append_grow_zeros (P := Tryz.prog) w 95 3 ty 111 i0 _ .i64 .i64 Tryz.underlying95 Tryz.underlying3 hi0 hz0 (some ⟨g, 0, none⟩) i l.length ((flat l).take (i * 3)) hold (l.length + 1 - i) (by omega) (by omega) (by omega) (by omega) (by rw [hzb]; omega) (by rw [hzb, hik]; exact growslice_fits (by omega) (by omega))
    rw [hik] at h
    rw [hkk]
    exact h
  obtain ⟨G, hG⟩ : ∃ G, G = grownCap w (l.length + 1) l.length 111 := ⟨_, rfl⟩
  have hGn : l.length + 1 ≤ G := by rw [hG]; exact grownCap_ge w _ _ _
  have hG63 : G ≤ maxLen := by rw [hG]; exact grownCap_le_maxLen w _ _ _ (by unfold maxLen; omega)
  rw [← hG] at hrz
  obtain ⟨ROW, hROW⟩ : ∃ ROW : Array Value, ROW = ((flat l).take (i * 3)).toArray ++ Builtin.zeroCells (Value.agg #[.int .i64 0, .int .i64 0, .int .i64 0]).cells (l.length + 1 - i) ++ Builtin.zeroCells (Value.agg #[.int .i64 0, .int .i64 0, .int .i64 0]).cells (G - (l.length + 1)) := ⟨_, rfl⟩
  rw [← hROW] at hrz
  have hRs : ROW.size = G * 3 := by
    rw [hROW]
    simp only [Array.size_append, List.size_toArray, List.length_take, hfl]
    simp [Builtin.zeroCells, Value.cells]
    omega
  have hRt : ROW.toList.take (i * 3) = (flat l).take (i * 3) := by
    rw [hROW]
    simp only [Array.toList_append]
    rw [List.append_assoc, List.take_append_of_le_length (by simp [hfl]; omega), List.take_take, Nat.min_self]
  obtain ⟨W1, hW1⟩ : ∃ W1, W1 = w.drew.alloc (.cells ROW 111) := ⟨_, rfl⟩
  rw [← hW1] at hrz
  have hb1 : Below w.heap.size w W1 := by rw [hW1]; exact (Below.refl _ _).drew.alloc (Nat.le_refl _) _
  have hr1 : W1.heap[w.heap.size]? = some (.cells ROW 111 (0, 0)) := by rw [hW1]; exact Deep.blk_alloc_new w.drew _
  have hcl : (cells3 x).length = 3 := rfl
  have hcpA : ∀ ty dc, (Builtin.copy_ #[95, 95] ty #[.slice (some ⟨w.heap.size, i * 3, none⟩) (l.length + 1 - i) dc, .slice (some ⟨vb, 0, none⟩) 1 1]).run Tryz.prog W1 = .ok (goInt 1) (W1.setRow w.heap.size (ROW.toList.take (i * 3) ++ cells3 x ++ ROW.toList.drop (i * 3 + (cells3 x).length)).toArray) := fun ty dc =>
    run_copy_rowK (P := Tryz.prog) W1 _ _ ty 111 w.heap.size (i * 3) (l.length + 1 - i) dc ⟨vb, 0, none⟩ 1 1 ROW _ (cells3 x) 1 3 Tryz.underlying95 hsz hr1 (by simp only [Nat.min_def]; split <;> omega) rfl (fun j v hj => by
      rw [add_at, Nat.zero_add]
      refine cell_stays hb1 ?_
      simp only [World.cell?, hv]
      simpa using hj) (by rw [hcl, hRs]; omega) (by intro u hu; simp [cells3] at hu; rcases hu with rfl | rfl | rfl <;> rfl)
  obtain ⟨ROW2, hROW2⟩ : ∃ ROW2 : Array Value, ROW2 = (ROW.toList.take (i * 3) ++ cells3 x ++ ROW.toList.drop (i * 3 + (cells3 x).length)).toArray := ⟨_, rfl⟩
  rw [← hROW2] at hcpA
  have hR2 : ROW2.size = G * 3 := by rw [hROW2]; simp [hcl, hRs]; omega
  obtain ⟨W2, hW2⟩ : ∃ W2, W2 = W1.setRow w.heap.size ROW2 := ⟨_, rfl⟩
  rw [← hW2] at hcpA
  have hr2 : W2.heap[w.heap.size]? = some (.cells ROW2 111 (0, 0)) := by rw [hW2]; exact setRow_heap _ _ _ _ _ _ hr1
  have hb2 : Below w.heap.size w W2 := by rw [hW2]; exact hb1.trans ⟨rfl, rfl, rfl, by simp [World.setRow], fun k hk => setRow_other _ _ k _ (by omega)⟩
  have hdl : ((flat l).drop (i * 3)).length = (l.length - i) * 3 := by rw [List.length_drop, hfl]; omega
  have hcpB : ∀ ty dc sc, (Builtin.copy_ #[95, 95] ty #[.slice (some ⟨w.heap.size, (i + 1) * 3, none⟩) (l.length - i) dc, .slice (some ⟨g, i * 3, none⟩) (l.length - i) sc]).run Tryz.prog W2.drew = .ok (goInt ((l.length - i : Nat) : Int)) (W2.drew.setRow w.heap.size (ROW2.toList.take ((i + 1) * 3) ++ (flat l).drop (i * 3) ++ ROW2.toList.drop ((i + 1) * 3 + ((flat l).drop (i * 3)).length)).toArray) := fun ty dc sc =>
    run_copy_rowK (P := Tryz.prog) W2.drew _ _ ty 111 w.heap.size ((i + 1) * 3) (l.length - i) dc ⟨g, i * 3, none⟩ (l.length - i) sc ROW2 _ ((flat l).drop (i * 3)) (l.length - i) 3 Tryz.underlying95 hsz hr2 (by simp only [Nat.min_def]; split <;> omega) hdl (fun j v hj => by
      rw [add_at]
      rw [List.getElem?_drop] at hj
      exact cell_stays (hb2.drew) (hcell _ v hj)) (by rw [hdl, hR2]; omega) (fun u hu => flat_oneU l u (List.mem_of_mem_drop hu))
  have hfin : (W2.drew.setRow w.heap.size (ROW2.toList.take ((i + 1) * 3) ++ (flat l).drop (i * 3) ++ ROW2.toList.drop ((i + 1) * 3 + ((flat l).drop (i * 3)).length)).toArray).ownsRow w.heap.size 111 3 (.slice (some ⟨w.heap.size, 0, none⟩) (l.length + 1) G) (l.length + 1) (flat (l.take i ++ x :: l.drop i)) := by
    refine ⟨by rw [flat_length, List.length_append, List.length_cons, List.length_take, List.length_drop]; omega, .inr ⟨w.heap.size, G, _, rfl, Nat.le_refl _, setRow_heap _ _ _ _ _ _ hr2, hGn, hG63, by simp [hdl, hR2]; omega, ?_⟩⟩
    have e1 : ROW2.toList.take ((i + 1) * 3) = (flat l).take (i * 3) ++ cells3 x := by
      have hA : ROW.toList.take (i * 3) ++ cells3 x = (flat l).take (i * 3) ++ cells3 x := by rw [hRt]
      rw [hROW2]
      show ((ROW.toList.take (i * 3) ++ cells3 x) ++ _).take _ = _
      rw [hA, List.take_left' (by rw [List.length_append, List.length_take, hcl]; omega)]
    show (((ROW2.toList.take ((i + 1) * 3) ++ (flat l).drop (i * 3)) ++ _).take _) = _
    rw [e1, List.take_left' (by rw [List.length_append, List.length_append, List.length_take, hcl, hdl]; omega), flat_take, flat_drop, flat_append]
    simp [flat, List.append_assoc]
  have hbf : Below w.heap.size w (W2.drew.setRow w.heap.size (ROW2.toList.take ((i + 1) * 3) ++ (flat l).drop (i * 3) ++ ROW2.toList.drop ((i + 1) * 3 + ((flat l).drop (i * 3)).length)).toArray) := hb2.drew.trans ⟨rfl, rfl, rfl, by simp [World.setRow], fun k hk => setRow_other _ _ k _ (by have : w.heap.size ≤ W2.drew.heap.size := hb2.drew.size; omega)⟩
  obtain ⟨W3, hW3⟩ : ∃ W3, W3 = W2.drew.setRow w.heap.size (ROW2.toList.take ((i + 1) * 3) ++ (flat l).drop (i * 3) ++ ROW2.toList.drop ((i + 1) * 3 + ((flat l).drop (i * 3)).length)).toArray := ⟨_, rfl⟩
  rw [← hW3] at hcpB hfin hbf
  have hz2 : ¬ ((i : Int) = (l.length : Int)) := by omega
  have hz3 : (l.length : Int) < (l.length : Int) + 1 := by omega
  have hwr : IntKind.i64.wrap ((i : Int) + 1) = (i : Int) + 1 := by rw [IntKind.wrap_i64]; omega
  have hb1' : (0 : Int) ≤ (i : Int) + 1 := by omega
  have htn : ((i : Int) + 1).toNat = i + 1 := by omega
  have hb3 : (i : Int) ≤ (l.length : Int) := by omega
  have hGi : ¬ (G = i) := by omega
  have hGim : ¬ (G = i + 1) := by omega
  have hci : ¬ (l.length = i) := by omega
  have hin : i ≤ l.length := by omega
  unfold maxLen at hG63
  clear hkk hik hold hROW hG hRs hRt hr1 hROW2 hR2 hr2 hW1 hW2 hW3 hb1 hb2 hcell hv h hdl hcl hfl hsz hi0 hz0 hzs hzb
  go_enter Tryz.func85, Tryz.ntmps85
  go_wp2_with (first
    | (at_builtin; refine Lib.wpList_append_run _ rfl _ _ _ _ rfl _ _ rfl rfl _ _ (hrz _) ?_)
    | fail)
  refine region_last (fun _ => True) (by kernel_rfl) (by kernel_rfl) (by kernel_rfl) trivial (fun hHeld0 => ?_)
  simp only [List.dropLast, List.length_cons, List.length_nil, Nat.reduceAdd]
  refine takeL (i := 0) (v := ?_) rfl (by kernel_rfl) (by kernel_rfl) (by kernel_rfl) (fun _ _ _ h => h) rfl (by assumption) ?_ ?_
  rotate_left
  · (intro wS hSw; (try dsimp only at hSw); go_simp; try with_reducible rfl)
  (try simp only [Act.put, List.setIfInBounds_toArray, List.set_cons_zero, List.set_cons_succ])
  refine takeL (i := 1) (v := ?_) rfl (by kernel_rfl) (by kernel_rfl) (by kernel_rfl) (fun _ _ _ h => h) rfl (by assumption) ?_ ?_
  rotate_left
  · (intro wS hSw; (try dsimp only at hSw); go_simp; try with_reducible rfl)
  (try simp only [Act.put, List.setIfInBounds_toArray, List.set_cons_zero, List.set_cons_succ])
  refine takeL (i := 2) (v := ?_) rfl (by kernel_rfl) (by kernel_rfl) (by kernel_rfl) (fun _ _ _ h => h) rfl (by assumption) ?_ ?_
  rotate_left
  · (intro wS hSw; (try dsimp only at hSw); go_simp; try with_reducible rfl)
  (try simp only [Act.put, List.setIfInBounds_toArray, List.set_cons_zero, List.set_cons_succ])
  refine takeL (i := 3) (v := ?_) rfl (by kernel_rfl) (by kernel_rfl) (by kernel_rfl) (fun _ _ _ h => h) rfl (by assumption) ?_ ?_
  rotate_left
  · (intro wS hSw; (try dsimp only at hSw); go_simp; try with_reducible rfl)
  (try simp only [Act.put, List.setIfInBounds_toArray, List.set_cons_zero, List.set_cons_succ])
  refine takeL (i := 4) (v := ?_) rfl (by kernel_rfl) (by kernel_rfl) (by kernel_rfl) (fun _ _ _ h => h) rfl (by assumption) ?_ ?_
  rotate_left
  · (intro wS hSw; (try dsimp only at hSw); go_simp; try with_reducible rfl)
  (try simp only [Act.put, List.setIfInBounds_toArray, List.set_cons_zero, List.set_cons_succ])
  refine takeL (i := 5) (v := ?_) rfl (by kernel_rfl) (by kernel_rfl) (by kernel_rfl) (fun _ _ _ h => h) rfl (by assumption) ?_ ?_
  rotate_left
  · (intro wS hSw; (try dsimp only at hSw); go_simp; try with_reducible rfl)
  (try simp only [Act.put, List.setIfInBounds_toArray, List.set_cons_zero, List.set_cons_succ])
  refine takeL (i := 6) (v := ?_) rfl (by kernel_rfl) (by kernel_rfl) (by kernel_rfl) (fun _ _ _ h => h) rfl (by assumption) ?_ ?_
  rotate_left
  · (intro wS hSw; (try dsimp only at hSw); go_simp; try with_reducible rfl)
  (try simp only [Act.put, List.setIfInBounds_toArray, List.set_cons_zero, List.set_cons_succ])
  refine takeL (i := 7) (v := ?_) rfl (by kernel_rfl) (by kernel_rfl) (by kernel_rfl) (fun _ _ _ h => h) rfl (by assumption) ?_ ?_
  rotate_left
  · (intro wS hSw; (try dsimp only at hSw); go_simp; try with_reducible rfl)
  (try simp only [Act.put, List.setIfInBounds_toArray, List.set_cons_zero, List.set_cons_succ])
  refine wpAnyH_done (by kernel_rfl) ?_ _
  refine lastL (n := 8) rfl rfl ?_
  go_simp
  go_wp2
  go_ret
  exact ⟨G, rfl, hfin, hbf⟩

theorem insertRow_end (g vb : Nat) (l : List Rw) (x : Rw) (c : Nat) (w : World) {base : Nat} (hn : l.length ≤ 1048576) (hbase : base ≤ w.heap.size) (hc : l.length = c)
    (h : w.ownsRow base 111 3 (.slice (some ⟨g, 0, none⟩) l.length c) l.length (flat l)) (hv : w.heap[vb]? = some (.cells (cells3 x).toArray 111 (0, 0))) :
    Calls Tryz.prog 85 #[.slice (some ⟨g, 0, none⟩) l.length c, .int .i64 (l.length : Int), .slice (some ⟨vb, 0, none⟩) 1 1] w fun e w' =>
      ∃ g' c', e = .returned (.slice (some ⟨g', 0, none⟩) (l.length + 1) c') ∧ w'.ownsRow base 111 3 (.slice (some ⟨g', 0, none⟩) (l.length + 1) c') (l.length + 1) (flat (l ++ [x])) ∧ w.grownBy w' (some g) ∧ (g' = g ∨ g' = w.heap.size) := by
  obtain ⟨ti, hI, hz0, hz1, hz2⟩ := info_parts infoRowU
  have i0 : (0 : Int) ≤ (l.length : Int) := by omega
  have hsrc : SrcAt w (some ⟨vb, 0, none⟩) 1 (cells3 x) := .inr ⟨_, rfl, fun j u hu => by
    rw [add_at, Nat.zero_add]
    simp only [World.cell?, hv]
    simpa using hu⟩
  have hfs : flat (l ++ [x]) = flat l ++ cells3 x := by simp [flat]
  have HC : Hid (l.length = c) := hc
  clear hc hv
  rw [hfs]
  go_enter Tryz.func85, Tryz.ntmps85
  go_wp2_with (at_builtin; refine wpList_append_src rfl _ _ 95 rfl base 111 ti _ 3 24 Tryz.underlying95 hI hz0 hz1 hz2 rfl (by decide) g l.length c (flat l) rfl h (some ⟨vb, 0, none⟩) 1 1 (cells3 x) rfl rfl hsrc (by intro u hu; simp [cells3] at hu; rcases hu with rfl | rfl | rfl <;> rfl) (by unfold maxLen; omega) (by omega) hbase ?_; intro g' c' w' hown hgr hat hlt)
  · go_ret
    exact ⟨g', c', rfl, hown, hgr, hat⟩
  · go_ret
    exact ⟨g', c', rfl, hown, hgr, hat⟩
end Go.Proofs.YtmecbppblbmchaaGreatDoor

/- A state behind a pointer: what one transaction has written is put anew. -/
namespace Go.Proofs.YtmecbppblbmchaaGreatDoor
open Go.ChangeShapes Go.WideShapes Go.ChangeAt Go.RowKit Go.Sort
set_option linter.unusedVariables false
set_option maxRecDepth 100000

theorem tri_setC (n : Nat) (f g h : Nat → Value) (k : Nat) (hk : k < n) (c : Value) : (tri n f g h).set (k * 3 + 2) c = tri n f g (fun j => if j = k then c else h j) := by
  refine ext3X (n := n) _ _ (by simp [tri_length]) (by simp [tri_length]) fun i hi => ?_
  obtain ⟨x, y, z⟩ := tri_get f g h n i hi
  obtain ⟨x', y', z'⟩ := tri_get f g (fun j => if j = k then c else h j) n i hi
  rw [x', y', z']
  have hl := tri_length n f g h
  simp only [List.getElem?_set, hl]
  by_cases e : i = k
  · subst e
    refine ⟨?_, ?_, ?_⟩
    · rw [if_neg (by omega)]; exact x
    · rw [if_neg (by omega)]; exact y
    · simp; omega
  · simp only [if_neg e]
    refine ⟨?_, ?_, ?_⟩
    · rw [if_neg (by omega)]; exact x
    · rw [if_neg (by omega)]; exact y
    · rw [if_neg (by omega)]; exact z
theorem tAt_set (l : List Td) (i j : Nat) (t : Td) (hi : i < l.length) : tAt (l.set i t) j = if j = i then t else tAt l j := by
  simp only [tAt, List.getD_eq_getElem?_getD, List.getElem?_set]
  by_cases e : i = j
  · subst e; simp [hi]
  · rw [if_neg e, if_neg (fun h => e h.symm)]
/-- The state when transaction i has written r. -/
def putW (m : Md) (i : Nat) (r : List Rw) : Md := { m with x := m.x.set i ⟨(tAt m.x i).i, (tAt m.x i).s, r⟩ }
def wput (i : Nat) (u : Value) (wv : Nat → Value) : Nat → Value := fun j => if j = i then u else wv j
theorem txc_put (m : Md) (i : Nat) (r : List Rw) (u : Value) (wv : Nat → Value) (hi : i < m.x.length) : (txc m.x wv).set (i * 3 + 2) u = txc (putW m i r).x (wput i u wv) := by
  rw [txc, tri_setC _ _ _ _ _ hi, txc]
  have hl : (putW m i r).x.length = m.x.length := by simp [putW]
  rw [hl]
  simp only [tri]
  rw [List.flatMap_def, List.flatMap_def]
  congr 1
  apply List.map_congr_left
  intro q hq
  simp only [putW, tAt_set _ _ _ _ hi, wput]
  by_cases e : q = i
  · subst e; simp
  · simp [if_neg e]

section
variable {base B s0 s1 g c : Nat} {w : World} {vs ve : Value} {m : Md} {wv : Nat → Value}
/-- The rows of one transaction lie elsewhere. -/
theorem PtrM.setW (h : PtrM base w B s0 s1 vs (.slice (some ⟨g, 0, none⟩) m.x.length c) ve m wv) {w1 w5 : World} (hb : Below w.heap.size w w1) {i : Nat} (hi : i < m.x.length) (hg : w1.grownBy w5 (wv i).ownBlock) {u : Value} {r : List Rw}
    (hown : w5.ownsRow base 111 3 u r.length (flat r)) (hat : ∀ gg, u.ownBlock = some gg → (wv i).ownBlock = some gg ∨ w.heap.size ≤ gg) :
    PtrM base (w5.setCell ⟨g, i * 3 + 2, none⟩ u) B s0 s1 vs (.slice (some ⟨g, 0, none⟩) (putW m i r).x.length c) ve (putW m i r) (wput i u wv) ∧ Below base w (w5.setCell ⟨g, i * 3 + 2, none⟩ u) := by
  have hz1 := hb.size
  have hz5 := hg.size
  have hBl := h.box.lt
  have hgl : g < w.heap.size := (owns_ltM h.own.x rfl).2
  have hln : (putW m i r).x.length = m.x.length := by simp [putW]
  have hgB : g ≠ B := fun e => h.apart 0 (by omega) (by rw [e]; rfl)
  have hgw : (wv i).ownBlock ≠ some g := fun e => h.own.apart (i + 2) 0 (by omega) (by omega) (by omega) g e rfl
  have hBw : (wv i).ownBlock ≠ some B := h.apart (i + 2) (by omega)
  have hk5 : ∀ k, k < w.heap.size → (wv i).ownBlock ≠ some k → w5.heap[k]? = w.heap[k]? := fun k h1 h2 => (hg.block k (by omega) (fun e => h2 e.symm)).trans (hb.block k h1)
  have hk : ∀ k, k < w.heap.size → (wv i).ownBlock ≠ some k → k ≠ g → (w5.setCell ⟨g, i * 3 + 2, none⟩ u).heap[k]? = w.heap[k]? := fun k h1 h2 h3 => (Below.heap_setCell _ _ _ _ h3).trans (hk5 k h1 h2)
  have hug : ∀ gg, u.ownBlock = some gg → gg ≠ g ∧ gg ≠ B := fun gg e => by
    rcases hat gg e with h1 | h1
    · exact ⟨fun e' => hgw (e' ▸ h1), fun e' => hBw (e' ▸ h1)⟩
    · exact ⟨by omega, by omega⟩
  have old : ∀ a, a < m.x.length + 2 → a ≠ i + 2 → mv (.slice (some ⟨g, 0, none⟩) m.x.length c) ve (wput i u wv) a = mv (.slice (some ⟨g, 0, none⟩) m.x.length c) ve wv a := fun a ha h0 => by
    match a, ha, h0 with
    | 0, _, _ => rfl
    | 1, _, _ => rfl
    | j + 2, _, hj => simp only [mv, wput, if_neg (show j ≠ i by omega)]
  have new : mv (.slice (some ⟨g, 0, none⟩) m.x.length c) ve (wput i u wv) (i + 2) = u := by simp [mv, wput]
  rw [hln]
  refine ⟨⟨⟨h.own.s.keep fun k h1 h2 h3 => hk k h3 (fun e => by have := h.own.far (i + 2) (by omega) k e; omega) (fun e => by subst e; have := h.own.far 0 (by omega) k rfl; omega), ⟨h.own.sb.1, h.own.sb.2.1, by rw [size_setCell]; have := h.own.sb; omega⟩, ?_, fun j hj => ?_, owns_keepM h.own.h fun k hk' hl => hk k hl (fun e => h.own.apart 1 (i + 2) (by omega) (by omega) (by omega) k hk' e) (fun e => by subst e; exact h.own.apart 1 0 (by omega) (by omega) (by omega) k hk' rfl), ?_, ?_⟩, ?_, h.base, h.far, ?_⟩, ?_⟩
  · have hx5 := owns_keepM (w' := w5) h.own.x fun k hk' hl => by
      have e : k = g := by simpa [Value.ownBlock] using hk'.symm
      subst e
      exact hk5 k hgl hgw
    have := owns_set hx5 (i * 3 + 2) u (by omega)
    rw [txc_put m i r u wv hi] at this
    show World.ownsRow _ base 97 3 _ (putW m i r).x.length _
    rw [hln]
    exact this
  · show World.ownsRow _ base 111 3 (wput i u wv j) (tAt (putW m i r).x j).w.length (flat (tAt (putW m i r).x j).w)
    have hj' : j < m.x.length := by rw [← hln]; exact hj
    simp only [putW, tAt_set _ _ _ _ hi, wput]
    by_cases e : j = i
    · subst e
      simp only [if_true]
      exact owns_keepM hown fun k hk' hl => Below.heap_setCell _ _ _ _ (hug k hk').1
    · simp only [if_neg e]
      exact owns_keepM (h.own.xw j hj') fun k hk' hl => hk k hl (fun e' => h.own.apart (j + 2) (i + 2) (by omega) (by omega) (by omega) k hk' e') (fun e' => by subst e'; exact h.own.apart (j + 2) 0 (by omega) (by omega) (by omega) k hk' rfl)
  · intro a ha k hk'
    have ha' : a < m.x.length + 2 := by rw [← hln]; exact ha
    by_cases e : a = i + 2
    · subst e
      rw [new] at hk'
      rcases hat k hk' with h1 | h1
      · exact h.own.far (i + 2) (by omega) k h1
      · have := h.own.sb; exact .inr (by omega)
    · rw [old a ha' e] at hk'
      exact h.own.far a ha' k hk'
  · have hap := apart_upd (N := m.x.length + 2) (N' := m.x.length + 2) (S := w.heap.size) (f := fun a => (mv (.slice (some ⟨g, 0, none⟩) m.x.length c) ve wv a).ownBlock) (f' := fun a => (mv (.slice (some ⟨g, 0, none⟩) m.x.length c) ve (wput i u wv) a).ownBlock) h.own.apart (fun a ha k hk' => (h.own.lt a ha k hk').2) (fun a ha k hk' => ?_) (fun a b ha hb' hab k hS h1 h2 => ?_)
    · intro a b ha hb'
      exact hap a b (by rw [← hln]; exact ha) (by rw [← hln]; exact hb')
    · by_cases e : a = i + 2
      · subst e
        simp only [new] at hk'
        rcases hat k hk' with h1 | h1
        · exact .inl ⟨by omega, h1⟩
        · exact .inr h1
      · simp only [old a ha e] at hk'
        exact .inl ⟨ha, hk'⟩
    · have key : ∀ a, a < m.x.length + 2 → (mv (.slice (some ⟨g, 0, none⟩) m.x.length c) ve (wput i u wv) a).ownBlock = some k → a = i + 2 := fun a ha e => by
        by_cases e' : a = i + 2
        · exact e'
        · rw [old a ha e'] at e
          have := (h.own.lt a ha k e).2
          omega
      exact hab ((key a ha h1).trans (key b hb' h2).symm)
  · have hb5 := (h.box.of_block (hk5 B hBl hBw)).setOther (a := ⟨g, i * 3 + 2, none⟩) (fun e => hgB e.symm) u
    exact hb5
  · intro a ha e
    have ha' : a < m.x.length + 2 := by rw [← hln]; exact ha
    by_cases e' : a = i + 2
    · subst e'
      rw [new] at e
      exact (hug B e).2 rfl
    · rw [old a ha' e'] at e
      exact h.apart a ha' e
  · have b1 : Below base w w1 := hb.mono (by have := h.base; omega)
    have b5 : Below base w1 w5 := ⟨hg.os, hg.tape, hg.output, hg.size, fun k hk' => hg.block k (by have := h.base; omega) (fun e => by have := (owns_ltM (h.own.xw i hi) e.symm).1; omega)⟩
    exact (b1.trans b5).setCell (p := ⟨g, i * 3 + 2, none⟩) (owns_ltM h.own.x rfl).1 _

/-- One row of one transaction gets another value. -/
theorem PtrM.setV (h : PtrM base w B s0 s1 vs (.slice (some ⟨g, 0, none⟩) m.x.length c) ve m wv) {i k gw cw : Nat} (hi : i < m.x.length) (hk : k < (tAt m.x i).w.length) (hwv : wv i = .slice (some ⟨gw, 0, none⟩) (tAt m.x i).w.length cw) (v : Int) :
    PtrM base (w.setCell ⟨gw, k * 3 + 2, none⟩ (.int .i64 v)) B s0 s1 vs (.slice (some ⟨g, 0, none⟩) m.x.length c) ve (putW m i ((tAt m.x i).w.set k ⟨(rAt (tAt m.x i).w k).t, (rAt (tAt m.x i).w k).r, v⟩)) wv ∧ Below base w (w.setCell ⟨gw, k * 3 + 2, none⟩ (.int .i64 v)) := by
  have hgw : (wv i).ownBlock = some gw := by rw [hwv]; rfl
  have hln : ∀ r, (putW m i r).x.length = m.x.length := fun r => by simp [putW]
  have hne : ∀ a, a < m.x.length + 2 → a ≠ i + 2 → ∀ q, (mv (.slice (some ⟨g, 0, none⟩) m.x.length c) ve wv a).ownBlock = some q → q ≠ gw := fun a ha h0 q hq e => h.own.apart (i + 2) a (by omega) ha (fun e' => h0 e'.symm) gw hgw (e ▸ hq)
  have hBg : B ≠ gw := fun e => h.apart (i + 2) (by omega) (e ▸ hgw)
  have hkp : ∀ q, q ≠ gw → (w.setCell ⟨gw, k * 3 + 2, none⟩ (.int .i64 v)).heap[q]? = w.heap[q]? := fun q hq => Below.heap_setCell _ _ _ _ hq
  have hx : txc m.x wv = txc (putW m i ((tAt m.x i).w.set k ⟨(rAt (tAt m.x i).w k).t, (rAt (tAt m.x i).w k).r, v⟩)).x wv := by
    rw [txc, txc, hln]
    simp only [tri]
    rw [List.flatMap_def, List.flatMap_def]
    congr 1
    apply List.map_congr_left
    intro q hq
    simp only [putW, tAt_set _ _ _ _ hi]
    by_cases e : q = i
    · subst e; simp
    · simp [if_neg e]
  have hz := size_setCell w ⟨gw, k * 3 + 2, none⟩ (.int .i64 v)
  refine ⟨⟨⟨h.own.s.keep fun q h1 h2 h3 => hkp q (fun e => by subst e; have := h.own.far (i + 2) (by omega) q hgw; omega), ⟨h.own.sb.1, h.own.sb.2.1, by rw [hz]; exact h.own.sb.2.2⟩, ?_, fun j hj => ?_, owns_keepM h.own.h fun q hq hl => hkp q (hne 1 (by omega) (by omega) q hq), ?_, ?_⟩, ?_, h.base, h.far, ?_⟩, ?_⟩
  · show World.ownsRow _ base 97 3 _ (putW m i _).x.length _
    rw [hln, ← hx]
    exact owns_keepM h.own.x fun q hq hl => hkp q (hne 0 (by omega) (by omega) q hq)
  · have hj' : j < m.x.length := by rw [← hln]; exact hj
    show World.ownsRow _ base 111 3 (wv j) (tAt (putW m i _).x j).w.length (flat (tAt (putW m i _).x j).w)
    simp only [putW, tAt_set _ _ _ _ hi]
    by_cases e : j = i
    · subst e
      simp only [if_true, List.length_set]
      rw [← flat_setV _ _ v hk, hwv]
      have h1 := h.own.xw j hj'
      rw [hwv] at h1
      exact owns_set h1 (k * 3 + 2) _ (by omega)
    · simp only [if_neg e]
      exact owns_keepM (h.own.xw j hj') fun q hq hl => hkp q (hne (j + 2) (by omega) (by omega) q hq)
  · intro a ha; exact h.own.far a (by rw [← hln]; exact ha)
  · intro a b ha hb; exact h.own.apart a b (by rw [← hln]; exact ha) (by rw [← hln]; exact hb)
  · exact h.box.of_block (hkp B hBg)
  · intro a ha; exact h.apart a (by rw [← hln]; exact ha)
  · exact (Below.refl base w).setCell (p := ⟨gw, k * 3 + 2, none⟩) (owns_ltM (h.own.xw i hi) hgw).1 _
end
end Go.Proofs.YtmecbppblbmchaaGreatDoor

/- The program's hasRoom. -/
namespace Go.Proofs.YtmecbppblbmchaaGreatDoor
open Go.ChangeShapes Go.WideShapes Go.ChangeAt Go.RowKit Go.Sort
set_option linter.unusedVariables false
set_option maxRecDepth 100000
attribute [local go_sem ↓] Go.wp_at_zero Go.wp_at_succ

def refE (c : Int) : Value := .iface 113 (.agg #[.int .i64 c])
theorem hasRoom_any (a1 a2 a3 : Option Addr) (n1 c1 n2 c2 n3 c3 : Nat) (c n : Int) (w : World) (hn : n3 ≤ 1048580) :
    Calls Tryz.prog 70 #[.agg #[.slice a1 n1 c1, .int .i64 c, .int .i64 n, .slice a2 n2 c2, .slice a3 n3 c3]] w fun e w' => e = .returned (.bool (decide (n3 ≤ 2998))) ∧ Below w.heap.size w w' := by
  by_cases h : n3 ≤ 2998
  · have h' : (n3 : Int) ≤ 2998 := by omega
    go_enter Tryz.func70, Tryz.ntmps70
    go_wp2
    go_ret
    exact ⟨by rw [decide_eq_true h]; rfl, (Below.refl _ _).alloc (Nat.le_refl _) _⟩
  · have h' : ¬ (n3 : Int) ≤ 2998 := by omega
    go_enter Tryz.func70, Tryz.ntmps70
    go_wp2
    go_ret
    exact ⟨by first | rfl | (rw [decide_eq_false h]; rfl), (Below.refl _ _).alloc (Nat.le_refl _) _⟩

end Go.Proofs.YtmecbppblbmchaaGreatDoor

/- The program's stepping: the transaction that is to read or to write a key. -/
namespace Go.Proofs.YtmecbppblbmchaaGreatDoor
open Go.ChangeShapes Go.WideShapes Go.ChangeAt Go.RowKit Go.Sort
set_option linter.unusedVariables false
set_option maxRecDepth 100000
attribute [local go_sem ↓] Go.wp_at_zero Go.wp_at_succ

/-- What stepping answers. -/
def StAns (m : Md) (tx t : Int) (a : Option Addr) (e : Ending) : Prop :=
  (mgrOk m ∧ tabB t = true ∧ m.h.length ≤ 2998 ∧ ∃ i bt off, IsTx m tx i ∧ a = some ⟨bt, off, none⟩ ∧ e = .returned (.tuple #[.pointer (some ⟨bt, off + i * 3, none⟩), .nilIface])) ∨
  ((¬ mgrOk m ∨ NoTx m tx ∨ ¬ tabB t = true) ∧ e = .returned (.tuple #[.pointer none, refE 1])) ∨
  (mgrOk m ∧ (∃ i, IsTx m tx i) ∧ tabB t = true ∧ ¬ m.h.length ≤ 2998 ∧ e = .returned (.tuple #[.pointer none, refE 2]))

set_option maxHeartbeats 2000000 in
theorem stepping_any (b : Nat) (vs : Value) (a : Option Addr) (cap : Nat) (ve : Value) (m : Md) (tx t r : Int) (w : World) {lo hi : Nat} (hbox : MBox w b vs m.c m.n (.slice a m.x.length cap) ve) (h : MAt lo hi w vs (.slice a m.x.length cap) ve m) (hn : m.h.length ≤ 1048580) :
    Calls Tryz.prog 81 #[.pointer (some ⟨b, 0, none⟩), .int .i64 tx, .agg #[.int .i64 t, .int .i64 r]] w fun e w' => StAns m tx t a e ∧ Below w.heap.size w w' := by
  obtain ⟨a1, cap1, hv1⟩ : ∃ a cap, vs = .slice a m.s.length cap := by obtain ⟨a, cap, h1, _⟩ := h.s; exact ⟨a, cap, h1⟩
  obtain ⟨a3, cap3, hv3⟩ : ∃ a cap, ve = .slice a m.h.length cap := by obtain ⟨a, cap, h1, _⟩ := h.h; exact ⟨a, cap, h1⟩
  subst hv1 hv3
  have b0 : Below w.heap.size w (w.alloc (Obj.cells #[Value.int IntKind.i64 t, Value.int IntKind.i64 r] 46)) := (Below.refl _ _).alloc (Nat.le_refl _) _
  have x0 : (w.alloc (Obj.cells #[Value.int IntKind.i64 t, Value.int IntKind.i64 r] 46)).cell? ⟨w.heap.size, 0, none⟩ = some (.int .i64 t) := by simp [go_sem]
  have h0 := h.stays b0
  have hb0 := hbox.stays b0
  go_enter Tryz.func81, Tryz.ntmps81
  go_wp2_with fail
  generalize w.alloc (Obj.cells #[Value.int IntKind.i64 t, Value.int IntKind.i64 r] 46) = W at *
  refine (underWay_any b _ a cap _ m tx _ hb0 h0).mono ?_
  rintro e w1 ⟨hU, hb1⟩
  have b1 := b0.trans (hb1.mono b0.size)
  have y0 := cell_stays hb1 x0
  have hb1' := hb0.stays hb1
  clear x0 hb1 h0 hb0 b0
  rcases hU with ⟨hok, i, bt, off, hi, rfl, rfl⟩ | ⟨hno, rfl⟩
  · have HO : Hid (mgrOk m) := hok
    have HI : Hid (IsTx m tx i) := hi
    clear hok hi
    by_cases ht : tabB t = true
    · have HT : Hid (tabB t = true) := ht
      go_wp2_with fail
      refine (isTable_any _ _).mono ?_
      rw [ht]
      rintro e w2 ⟨rfl, rfl⟩
      clear ht
      obtain ⟨z0, z1, z2, z3, z4⟩ := hb1'
      go_wp2_with fail
      refine (hasRoom_any _ _ _ _ _ _ _ _ _ _ _ _ hn).mono ?_
      rintro e w3 ⟨rfl, hb3⟩
      have b3 := b1.trans (hb3.mono b1.size)
      by_cases eh : m.h.length ≤ 2998
      · rw [decide_eq_true eh]
        have HH : Hid (m.h.length ≤ 2998) := eh
        clear eh
        go_wp2
        go_ret2
        exact ⟨.inl ⟨HO.out, HT.out, HH.out, i, bt, off, HI.out, rfl, rfl⟩, b3⟩
      · rw [decide_eq_false eh]
        have HH : Hid (¬ m.h.length ≤ 2998) := eh
        clear eh
        go_wp2
        go_ret2
        exact ⟨.inr (.inr ⟨HO.out, ⟨i, HI.out⟩, HT.out, HH.out, rfl⟩), b3⟩
    · have HT : Hid (¬ tabB t = true) := ht
      have ht' : tabB t = false := by simpa using ht
      clear ht
      go_wp2_with fail
      refine (isTable_any _ _).mono ?_
      rw [ht']
      rintro e w2 ⟨rfl, rfl⟩
      clear ht'
      go_wp2
      go_ret2
      exact ⟨.inr (.inl ⟨.inr (.inr HT.out), rfl⟩), b1⟩
  · have HN : Hid (¬ mgrOk m ∨ NoTx m tx) := hno
    clear hno
    go_wp2
    go_ret2
    exact ⟨.inr (.inl ⟨by rcases HN.out with h | h; exact .inl h; exact .inr (.inl h), rfl⟩), b1⟩
end Go.Proofs.YtmecbppblbmchaaGreatDoor
