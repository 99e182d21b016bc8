import Derived.Test.YtmecbppblbmchaaGreatDoorOwnQ
/- spec.l1put: a version behind a row's others, in a store that is being built. -/
namespace Go.Proofs.YtmecbppblbmchaaGreatDoor
open Go.ChangeShapes Go.WideShapes Go.ChangeAt Go.RowKit Go.Maps Go.Sort
set_option linter.unusedVariables false
set_option maxRecDepth 100000
attribute [local go_sem ↓] Go.wp_at_zero Go.wp_at_succ

theorem OwnQ.chains {base : Nat} {w : World} {ov : Value} {q : List Qc} (h : OwnQ base w ov q) (hn : q.length ≤ 4194304) (hs : ∀ i, i < q.length → 0 < (qAt q i).1.l.length ∧ (qAt q i).1.l.length ≤ 1048576) : ChainsAt base w.heap.size w ov (qchs q) := by
  obtain ⟨h1, h2⟩ := h.row
  have hlen := qchs_length q
  rcases h2 with ⟨rfl, hz⟩ | ⟨g, cap, cur, rfl, hg, hblk, hcap, hcm, hcs, htk⟩
  · refine ⟨none, 0, by rw [hlen, hz], by rw [hlen]; unfold maxLen; omega, fun hp => by rw [hlen] at hp; omega⟩
  · refine ⟨_, cap, by rw [hlen], by rw [hlen]; unfold maxLen; omega, fun hp => ⟨g, 0, rfl, hg, (Array.getElem?_eq_some_iff.1 hblk).1, fun i hi => ?_⟩⟩
    rw [hlen] at hi
    obtain ⟨e1, e2, e3⟩ := qcells_get q i hi
    have hc : ∀ j, j < q.length * 3 → w.cell? ⟨g, j, none⟩ = (qcells q)[j]? := fun j hj => h.row.cellAt j hj
    rw [qchs_at q hi]
    refine ⟨by rw [Nat.zero_add, hc _ (by omega), e1], by rw [Nat.zero_add, hc _ (by omega), e2], ?_⟩
    have hl := h.lists i hi
    obtain ⟨l1, l2⟩ := hl
    rcases l2 with ⟨l2, l3⟩ | ⟨g', cap', cur', l2, hg', hblk', hcap', _, _, htk'⟩
    · have := (hs i hi).1; omega
    · refine ⟨some ⟨g', 0, none⟩, cap', by rw [Nat.zero_add, hc _ (by omega), e3, l2], _, cap', rfl, by unfold maxLen; have := (hs i hi).2; omega, fun hp2 => ⟨g', 0, rfl, hg', (Array.getElem?_eq_some_iff.1 hblk').1, fun k hk => ?_⟩⟩
      have ho := h.lists i hi
      rw [l2] at ho
      obtain ⟨v1, v2⟩ := vcells_get (qAt q i).1.l k hk
      exact ⟨by rw [Nat.zero_add, ho.cellAt _ (by omega), v1], by rw [Nat.zero_add, ho.cellAt _ (by omega), v2]⟩

theorem owns_slice {w : World} {base : Nat} {e : TypeId} {size : Nat} {v : Value} {n : Nat} {xs : List Value} (h : w.ownsRow base e size v n xs) : ∃ a m c, v = .slice a m c := by
  rcases h.2 with ⟨h, _⟩ | ⟨g, cap, cur, h, _⟩
  · exact ⟨_, _, _, h⟩
  · exact ⟨_, _, _, h⟩
theorem frozen_same {w w' : World} {b o : Nat} (h : w'.heap[b]? = w.heap[b]?) : w'.frozen? ⟨b, o, none⟩ = w.frozen? ⟨b, o, none⟩ := by
  unfold World.frozen?
  simp only [h]
def swpC (l : List Ch) (i : Nat) : List Ch := (l.set (i + 1) (cAt l i)).set i (cAt l (i + 1))
theorem qchs_swp (q : List Qc) {i : Nat} (hi : i + 1 < q.length) : qchs (swp q i) = swpC (qchs q) i := by
  rw [swp, swpC, qchs_set, qchs_set, qchs_at q hi, qchs_at q (show i < q.length by omega)]
/-- The chain at i goes ahead as long as its key is less than the one's ahead of it. -/
def bub : List Ch → Nat → List Ch
  | l, 0 => l
  | l, i + 1 => if klB (cAt l (i + 1)).t (cAt l (i + 1)).r (cAt l i).t (cAt l i).r = true then bub (swpC l i) i else l
/-- What l1put makes of chains. -/
def IsPut (l : List Ch) (t r : Int) (x : Vr) (l' : List Ch) : Prop :=
  (∃ n, n < l.length ∧ km l n t r ∧ (∀ i, i < n → ¬ km l i t r) ∧ l' = l.set n ⟨t, r, (cAt l n).l ++ [x]⟩) ∨ ((∀ i, i < l.length → ¬ km l i t r) ∧ l' = bub (l ++ [⟨t, r, [x]⟩]) l.length)

/-- What l1put leaves. -/
def PutTo (base bp : Nat) (w : World) (ov : Value) (q : List Qc) (t r : Int) (x : Vr) (w' : World) : Prop :=
  ∃ ov' q', w'.cell? ⟨bp, 0, none⟩ = some ov' ∧ w'.frozen? ⟨bp, 0, none⟩ = false ∧ OwnQ base w' ov' q' ∧ IsPut (qchs q) t r x (qchs q') ∧ Turn (qown bp ov q) w w' ∧ ∀ g, (ov'.ownBlock = some g ∨ ∃ i, i < q'.length ∧ (qAt q' i).2.ownBlock = some g) → (ov.ownBlock = some g ∨ ∃ i, i < q.length ∧ (qAt q i).2.ownBlock = some g) ∨ w.heap.size ≤ g

set_option maxHeartbeats 4000000 in
theorem l1put_any (bp : Nat) (ov : Value) (q : List Qc) (t r : Int) (x : Vr) (w : World) {base : Nat} (hO : OwnQ base w ov q) (hbase : base ≤ w.heap.size) (hp : w.cell? ⟨bp, 0, none⟩ = some ov) (hf : w.frozen? ⟨bp, 0, none⟩ = false) (hbo : ∀ g, (ov.ownBlock = some g ∨ ∃ i, i < q.length ∧ (qAt q i).2.ownBlock = some g) → g ≠ bp)
    (hn : q.length ≤ 4194304) (hs : ∀ i, i < q.length → 0 < (qAt q i).1.l.length ∧ (qAt q i).1.l.length ≤ 1048576) :
    Calls Tryz.prog 126 #[.pointer (some ⟨bp, 0, none⟩), .agg #[.int .i64 t, .int .i64 r], .agg #[.int .i64 x.1, .int .i64 x.2]] w fun e w' => e = .returned (.tuple #[]) ∧ PutTo base bp w ov q t r x w' := by
  have hl := hO.chains hn hs
  have bx : Below w.heap.size w ((w.alloc (Obj.cells #[.int .i64 t, .int .i64 r] 46)).alloc (Obj.cells #[.int .i64 x.1, .int .i64 x.2] 123)) := ((Below.refl _ _).alloc (Nat.le_refl _) _).alloc (by simp) _
  have p0 := cell_stays bx hp
  have p1 : ((w.alloc (Obj.cells #[.int .i64 t, .int .i64 r] 46)).alloc (Obj.cells #[.int .i64 x.1, .int .i64 x.2] 123)).cell? ⟨w.heap.size, 0, none⟩ = some (.int .i64 t) := by simp [go_sem]
  have p2 : ((w.alloc (Obj.cells #[.int .i64 t, .int .i64 r] 46)).alloc (Obj.cells #[.int .i64 x.1, .int .i64 x.2] 123)).cell? ⟨w.heap.size, 1, none⟩ = some (.int .i64 r) := by simp [go_sem]
  have p3 : ((w.alloc (Obj.cells #[.int .i64 t, .int .i64 r] 46)).alloc (Obj.cells #[.int .i64 x.1, .int .i64 x.2] 123)).cell? ⟨w.heap.size + 1, 0, none⟩ = some (.int .i64 x.1) := by simp [go_sem]
  have p4 : ((w.alloc (Obj.cells #[.int .i64 t, .int .i64 r] 46)).alloc (Obj.cells #[.int .i64 x.1, .int .i64 x.2] 123)).cell? ⟨w.heap.size + 1, 1, none⟩ = some (.int .i64 x.2) := by simp [go_sem]
  go_enter Tryz.func126, Tryz.ntmps126
  go_wp2_with fail
  generalize ((w.alloc (Obj.cells #[.int .i64 t, .int .i64 r] 46)).alloc (Obj.cells #[.int .i64 x.1, .int .i64 x.2] 123)) = W at *
  refine region_all (fun y => Below w.heap.size w y ∧ y.cell? ⟨bp, 0, none⟩ = some ov ∧ y.cell? ⟨w.heap.size, 0, none⟩ = some (.int .i64 t) ∧ y.cell? ⟨w.heap.size, 1, none⟩ = some (.int .i64 r) ∧ y.cell? ⟨w.heap.size + 1, 0, none⟩ = some (.int .i64 x.1) ∧ y.cell? ⟨w.heap.size + 1, 1, none⟩ = some (.int .i64 x.2)) (by kernel_rfl) ⟨bx.drew, p0, p1, p2, p3, p4⟩ (fun hHeld => ?_)
  simp only [List.length_cons, List.length_nil, Nat.reduceAdd]
  refine takeL (i := 0) (v := ?_) rfl (by kernel_rfl) (by kernel_rfl) (by kernel_rfl) (fun _ _ _ h => h) rfl (by assumption) ?_ ?_
  rotate_left
  · (intro wS hSw; (try dsimp only at hSw); go_simp; try with_reducible rfl)
  (try simp only [Act.put, List.setIfInBounds_toArray, List.set_cons_zero, List.set_cons_succ])
  refine takeL (i := 1) (v := ?_) rfl (by kernel_rfl) (by kernel_rfl) (by kernel_rfl) (fun _ _ _ h => h) rfl (by assumption) ?_ ?_
  rotate_left
  · (intro wS hSw; (try dsimp only at hSw); go_simp; try with_reducible rfl)
  (try simp only [Act.put, List.setIfInBounds_toArray, List.set_cons_zero, List.set_cons_succ])
  refine takeL (i := 2) (v := ?_) rfl (by kernel_rfl) (by kernel_rfl) (by kernel_rfl) (fun _ _ _ h => h) rfl (by assumption) ?_ ?_
  rotate_left
  · (intro wS hSw; (try dsimp only at hSw); go_simp; try with_reducible rfl)
  (try simp only [Act.put, List.setIfInBounds_toArray, List.set_cons_zero, List.set_cons_succ])
  refine takeL (i := 3) (v := ?_) rfl (by kernel_rfl) (by kernel_rfl) (by kernel_rfl) (fun _ _ _ h => h) rfl (by assumption) ?_ ?_
  rotate_left
  · (intro wS hSw; (try dsimp only at hSw); go_simp; try with_reducible rfl)
  (try simp only [Act.put, List.setIfInBounds_toArray, List.set_cons_zero, List.set_cons_succ])
  refine stepL (i := 4) rfl (by kernel_rfl) (fun K hK => ?_)
  rw [if_pos (by rfl)]
  go_simp
  refine (l1chain_any _ (qchs q) t r _ (hl.stays bx.drew)).mono ?_
  rintro e w1 ⟨y, rfl, hy, hb1⟩
  simp only []
  have b1 : Below w.heap.size w w1 := bx.drew.trans (hb1.mono bx.size)
  have r0 := cell_stays hb1 p0
  have r1 := cell_stays hb1 p1
  have r2 := cell_stays hb1 p2
  have r3 := cell_stays hb1 p3
  have r4 := cell_stays hb1 p4
  have hW : W.heap.size ≤ w1.heap.size := hb1.size
  refine hK.out _ _ ⟨b1, r0, r1, r2, r3, r4⟩ (fun hHeld1 => ?_)
  clear hK K hHeld
  (try simp only [Act.put, List.setIfInBounds_toArray, List.set_cons_zero, List.set_cons_succ])
  refine takeL (i := 5) (v := ?_) rfl (by kernel_rfl) (by kernel_rfl) (by kernel_rfl) (fun _ _ _ h => h) rfl (by assumption) ?_ ?_
  rotate_left
  · (intro wS hSw; (try dsimp only at hSw); go_simp; try with_reducible rfl)
  (try simp only [Act.put, List.setIfInBounds_toArray, List.set_cons_zero, List.set_cons_succ])
  refine wpAnyH_done (by kernel_rfl) ?_ _
  have hO1 := hO.stays b1
  rcases hy with ⟨rfl, hno⟩ | ⟨n, rfl, hnl, hkm, hfirst⟩
  · obtain ⟨i1, hI1, hy0, hy1, hy2⟩ := info_parts infoChain'
    have bc := build_chain t r (.slice (some ⟨w1.heap.size, 0, none⟩) 1 1) rfl
    have hz1 := b1.size
    go_wp2_with fail
    refine region_last (fun y => y.cell? ⟨bp, 0, none⟩ = some ov ∧ y.cell? ⟨w.heap.size, 0, none⟩ = some (.int .i64 t) ∧ y.cell? ⟨w.heap.size, 1, none⟩ = some (.int .i64 r) ∧ y.cell? ⟨w.heap.size + 1, 0, none⟩ = some (.int .i64 x.1) ∧ y.cell? ⟨w.heap.size + 1, 1, none⟩ = some (.int .i64 x.2)) (by kernel_rfl) (by kernel_rfl) (by kernel_rfl) ⟨r0, r1, r2, r3, r4⟩ (fun hHeld => ?_)
    simp only [List.dropLast, List.length_cons, List.length_nil, Nat.reduceAdd]
    refine takeL (i := 0) (v := ?_) rfl (by kernel_rfl) (by kernel_rfl) (by kernel_rfl) (fun _ _ _ h => h) rfl (by assumption) ?_ ?_
    rotate_left
    · (intro wS hSw; (try dsimp only at hSw); go_simp; try with_reducible rfl)
    (try simp only [Act.put, List.setIfInBounds_toArray, List.set_cons_zero, List.set_cons_succ])
    refine takeL (i := 1) (v := ?_) rfl (by kernel_rfl) (by kernel_rfl) (by kernel_rfl) (fun _ _ _ h => h) rfl (by assumption) ?_ ?_
    rotate_left
    · (intro wS hSw; (try dsimp only at hSw); go_simp; try with_reducible rfl)
    (try simp only [Act.put, List.setIfInBounds_toArray, List.set_cons_zero, List.set_cons_succ])
    refine takeL (i := 2) (v := ?_) rfl (by kernel_rfl) (by kernel_rfl) (by kernel_rfl) (fun _ _ _ h => h) rfl (by assumption) ?_ ?_
    rotate_left
    · (intro wS hSw; (try dsimp only at hSw); go_simp; try with_reducible rfl)
    (try simp only [Act.put, List.setIfInBounds_toArray, List.set_cons_zero, List.set_cons_succ])
    refine takeL (i := 3) (v := ?_) rfl (by kernel_rfl) (by kernel_rfl) (by kernel_rfl) (fun _ _ _ h => h) rfl (by assumption) ?_ ?_
    rotate_left
    · (intro wS hSw; (try dsimp only at hSw); go_simp; try with_reducible rfl)
    (try simp only [Act.put, List.setIfInBounds_toArray, List.set_cons_zero, List.set_cons_succ])
    refine takeL (i := 4) (v := ?_) rfl (by kernel_rfl) (by kernel_rfl) (by kernel_rfl) (fun _ _ _ h => h) rfl (by assumption) ?_ ?_
    rotate_left
    · (intro wS hSw; (try dsimp only at hSw); go_simp; try with_reducible rfl)
    (try simp only [Act.put, List.setIfInBounds_toArray, List.set_cons_zero, List.set_cons_succ])
    refine takeL (i := 5) (v := ?_) rfl (by kernel_rfl) (by kernel_rfl) (by kernel_rfl) (fun _ _ _ h => h) rfl (by assumption) ?_ ?_
    rotate_left
    · (intro wS hSw; (try dsimp only at hSw); go_simp; try with_reducible rfl)
    (try simp only [Act.put, List.setIfInBounds_toArray, List.set_cons_zero, List.set_cons_succ])
    refine takeL (i := 6) (v := ?_) rfl (by kernel_rfl) (by kernel_rfl) (by kernel_rfl) (fun _ _ _ h => h) rfl (by assumption) ?_ ?_
    rotate_left
    · (intro wS hSw; (try dsimp only at hSw); go_simp; try with_reducible rfl)
    (try simp only [Act.put, List.setIfInBounds_toArray, List.set_cons_zero, List.set_cons_succ])
    refine stepL (i := 7) rfl (by kernel_rfl) (fun K hK => ?_)
    rw [if_pos (by rfl)]
    go_simp
    have b2 := below_alloc w1 (Obj.cells #[.int .i64 x.1, .int .i64 x.2] 123)
    refine hK.out _ _ ⟨cell_stays b2 r0, cell_stays b2 r1, cell_stays b2 r2, cell_stays b2 r3, cell_stays b2 r4⟩ (fun hHeld2 => ?_)
    clear hK K hHeld
    (try simp only [Act.put, List.setIfInBounds_toArray, List.set_cons_zero, List.set_cons_succ])
    refine takeL (i := 8) (v := ?_) rfl (by kernel_rfl) (by kernel_rfl) (by kernel_rfl) (fun _ _ _ h => h) rfl (by assumption) ?_ ?_
    rotate_left
    · (intro wS hSw; (try dsimp only at hSw); go_simp; try with_reducible rfl)
    (try simp only [Act.put, List.setIfInBounds_toArray, List.set_cons_zero, List.set_cons_succ])
    refine stepL (i := 9) rfl (by kernel_rfl) (fun K hK => ?_)
    rw [if_pos (by rfl)]
    go_simp
    have b3 := below_alloc (w1.alloc (Obj.cells #[.int .i64 x.1, .int .i64 x.2] 123)) (Obj.cells #[.int .i64 t, .int .i64 r, .slice (some ⟨w1.heap.size, 0, none⟩) 1 1] 94)
    have b4 := b2.trans (b3.mono b2.size)
    refine hK.out _ _ ⟨cell_stays b4 r0, cell_stays b4 r1, cell_stays b4 r2, cell_stays b4 r3, cell_stays b4 r4⟩ (fun hHeld3 => ?_)
    clear hK K hHeld2
    (try simp only [Act.put, List.setIfInBounds_toArray, List.set_cons_zero, List.set_cons_succ])
    refine stepL (i := 10) rfl (by kernel_rfl) (fun K hK => ?_)
    refine step_append_lies _ (by rfl) _ _ _ (by rfl) base 94 i1 _ 3 40 Tryz.underlying30 hI1 hy0 hy1 hy2 rfl (by omega) ov q.length (qcells q) (by rfl) ((hO1.row.alloc _).alloc _) ⟨w1.heap.size + 1, 0, none⟩ 1 1 [.int .i64 t, .int .i64 r, .slice (some ⟨w1.heap.size, 0, none⟩) 1 1] (by rfl) (by rfl) (by have := World.news_of_block (heap_alloc_new (w1.alloc (Obj.cells #[.int .i64 x.1, .int .i64 x.2] 123)) (Obj.cells #[.int .i64 t, .int .i64 r, .slice (some ⟨w1.heap.size, 0, none⟩) 1 1] 94)); simpa using this) (by simp [Value.oneCell']) (by omega) (by unfold maxLen; omega) (by omega) (by show _ ≤ ((w1.alloc _).alloc _).heap.size; simp; omega) (w1.heap.size + 1 + 1) (by show ((w1.alloc _).alloc _).heap.size = _; simp) ?_
    intro g2 cap2 w2 hown2 hgrow2 hat2 hlt2
    have hz2 : w1.heap.size + 1 + 1 ≤ w2.heap.size := by have := hgrow2.size; simpa using this
    have hovb : ov.ownBlock ≠ some bp := fun e => hbo bp (.inl e) rfl
    have kb : ∀ g, g < w1.heap.size → ov.ownBlock ≠ some g → w2.heap[g]? = w1.heap[g]? := fun g hg hne => (hgrow2.block g (by show _ < ((w1.alloc _).alloc _).heap.size; simp; omega) (fun e => hne e.symm)).trans (b4.block g hg)
    have hovl : ∀ g, ov.ownBlock = some g → g < w.heap.size := fun g hg => (owns_lt hO.row hg).2
    have u0 := cell_same (kb bp (cell_lt r0) hovb) r0
    have u1 := cell_same (kb w.heap.size (cell_lt r1) (fun e => by have := hovl _ e; omega)) r1
    have u2 := cell_same (kb w.heap.size (cell_lt r1) (fun e => by have := hovl _ e; omega)) r2
    have u3 := cell_same (kb (w.heap.size + 1) (cell_lt r3) (fun e => by have := hovl _ e; omega)) r3
    have u4 := cell_same (kb (w.heap.size + 1) (cell_lt r3) (fun e => by have := hovl _ e; omega)) r4
    have uF : w2.frozen? ⟨bp, 0, none⟩ = false := by rw [frozen_same ((kb bp (cell_lt r0) hovb).trans (b1.block bp (cell_lt hp)))]; exact hf
    have hl5 : ((w1.alloc (Obj.cells #[.int .i64 x.1, .int .i64 x.2] 123)).alloc (Obj.cells #[.int .i64 t, .int .i64 r, .slice (some ⟨w1.heap.size, 0, none⟩) 1 1] 94)).ownsRow base 123 2 (.slice (some ⟨w1.heap.size, 0, none⟩) 1 1) 1 (vcells [x]) := (World.ownsRow_lit w1 #[.int .i64 x.1, .int .i64 x.2] 1 (by omega) (by unfold maxLen; omega) (by rfl)).alloc _
    have hOn : OwnQ base w2 (.slice (some ⟨g2, 0, none⟩) (q.length + 1) cap2) (q ++ [(⟨t, r, [x]⟩, .slice (some ⟨w1.heap.size, 0, none⟩) 1 1)]) := hO1.snoc b4 hl5 (fun g hg => by cases hg; exact Nat.le_refl _) hown2 (fun g hg hne => hgrow2.block g hg (fun e => hne e.symm)) (fun g hg => by
      cases hg
      rcases hat2 with h | h
      · exact .inl h
      · right; show ((w1.alloc _).alloc _).heap.size ≤ g2; simp; omega)
    have hg2b : g2 ≠ bp := fun e => by
      rcases hat2 with h | h
      · exact hovb (by rw [h, e])
      · have := cell_lt r0; simp at this; omega
    refine hK.out _ _ ⟨u0, u1, u2, u3, u4⟩ (fun hHeld4 => ?_)
    clear hK K hHeld3
    (try simp only [Act.put, List.setIfInBounds_toArray, List.set_cons_zero, List.set_cons_succ])
    refine takeL (i := 11) (v := ?_) rfl (by kernel_rfl) (by kernel_rfl) (by kernel_rfl) (fun _ _ _ h => h) rfl (by assumption) ?_ ?_
    rotate_left
    · (intro wS hSw; (try dsimp only at hSw); go_simp; try with_reducible rfl)
    (try simp only [Act.put, List.setIfInBounds_toArray, List.set_cons_zero, List.set_cons_succ])
    refine takeL (i := 12) (v := ?_) rfl (by kernel_rfl) (by kernel_rfl) (by kernel_rfl) (fun _ _ _ h => h) rfl (by assumption) ?_ ?_
    rotate_left
    · (intro wS hSw; (try dsimp only at hSw); go_simp; try with_reducible rfl)
    (try simp only [Act.put, List.setIfInBounds_toArray, List.set_cons_zero, List.set_cons_succ])
    refine wpAnyH_done (by kernel_rfl) ?_ _
    refine lastL (n := 13) rfl rfl ?_
    go_simp
    have hT : Turn (qown bp ov q) w (w2.setCell ⟨bp, 0, none⟩ (.slice (some ⟨g2, 0, none⟩) (q.length + 1) cap2)) := by
      refine Turn.setCell ?_ (.inl (.inl rfl)) _
      exact Turn.grown (Turn.of_below (b1.trans (b4.mono b1.size)).drew) hgrow2 fun g hg => .inl (.inr (.inl hg))
    have own1 : ∀ g, (some g2 = some g ∨ ∃ i, i < (q ++ [((⟨t, r, [x]⟩, .slice (some ⟨w1.heap.size, 0, none⟩) 1 1) : Qc)]).length ∧ (qAt (q ++ [(⟨t, r, [x]⟩, .slice (some ⟨w1.heap.size, 0, none⟩) 1 1)]) i).2.ownBlock = some g) → (ov.ownBlock = some g ∨ ∃ i, i < q.length ∧ (qAt q i).2.ownBlock = some g) ∨ w.heap.size ≤ g := fun g hg => by
      rcases hg with hg | ⟨i, hi, hg⟩
      · cases hg
        rcases hat2 with h | h
        · exact .inl (.inl h)
        · right; omega
      · by_cases e : i < q.length
        · rw [qAt_snoc_lt _ _ e] at hg
          exact .inl (.inr ⟨i, e, hg⟩)
        · have e2 : i = q.length := by simp at hi; omega
          subst e2
          rw [qAt_snoc_eq] at hg
          cases hg
          right; exact hz1
    have bpo : ∀ g, (some g2 = some g ∨ ∃ i, i < (q ++ [((⟨t, r, [x]⟩, .slice (some ⟨w1.heap.size, 0, none⟩) 1 1) : Qc)]).length ∧ (qAt (q ++ [(⟨t, r, [x]⟩, .slice (some ⟨w1.heap.size, 0, none⟩) 1 1)]) i).2.ownBlock = some g) → g ≠ bp := fun g hg => by
      rcases own1 g hg with h | h
      · exact hbo g h
      · have := cell_lt hp; simp at this; omega
    have hO3 := hOn.keep (w' := w2.setCell ⟨bp, 0, none⟩ (.slice (some ⟨g2, 0, none⟩) (q.length + 1) cap2)) fun g hg hl => Below.heap_setCell _ _ _ _ (bpo g hg)
    have hc3 : (w2.setCell ⟨bp, 0, none⟩ (.slice (some ⟨g2, 0, none⟩) (q.length + 1) cap2)).cell? ⟨bp, 0, none⟩ = some (.slice (some ⟨g2, 0, none⟩) (q.length + 1) cap2) := by simp [go_sem, u0]
    have hf3 : (w2.setCell ⟨bp, 0, none⟩ (.slice (some ⟨g2, 0, none⟩) (q.length + 1) cap2)).frozen? ⟨bp, 0, none⟩ = false := by simp [go_sem, uF]
    generalize hq1 : q ++ [((⟨t, r, [x]⟩, .slice (some ⟨w1.heap.size, 0, none⟩) 1 1) : Qc)] = q1 at *
    have hq1l : q1.length = q.length + 1 := by rw [← hq1]; simp
    have hq1c : qchs q1 = qchs q ++ [⟨t, r, [x]⟩] := by rw [← hq1, qchs_snoc]
    generalize w2.setCell ⟨bp, 0, none⟩ (.slice (some ⟨g2, 0, none⟩) (q.length + 1) cap2) = w3 at *
    clear u0 u1 u2 u3 u4 uF kb hOn hown2 hgrow2 hl5 hHeld4 hHeld1 r0 r1 r2 r3 r4 p0 p1 p2 p3 p4 bc hI1 b4 b3 b2 bx hl hb1 hO1 hat2 hq1
    have ex : ∀ (wr : World) (qk : List Qc), qk.length = q.length + 1 → wr.cell? ⟨bp, 0, none⟩ = some (.slice (some ⟨g2, 0, none⟩) (q.length + 1) cap2) → wr.frozen? ⟨bp, 0, none⟩ = false → OwnQ base wr (.slice (some ⟨g2, 0, none⟩) (q.length + 1) cap2) qk → Turn (qown bp ov q) w wr → (∀ g, (some g2 = some g ∨ ∃ i, i < qk.length ∧ (qAt qk i).2.ownBlock = some g) → (ov.ownBlock = some g ∨ ∃ i, i < q.length ∧ (qAt q i).2.ownBlock = some g) ∨ w.heap.size ≤ g) → qchs qk = bub (qchs q1) q.length → PutTo base bp w ov q t r x wr := fun wr qk h1 h2 h3 h4 h5 h6 h7 =>
      ⟨_, qk, h2, h3, h4, .inr ⟨hno, by rw [h7, hq1c, qchs_length]⟩, h5, h6⟩
    clear hno hq1c
    go_wp2
    go_loopw [7] (fun i wr => ∃ (k : Nat) (qk : List Qc), k < q.length + 1 ∧ qk.length = q.length + 1 ∧ i = .int .i64 k ∧ Hid (bub (qchs qk) k = bub (qchs q1) q.length) ∧ wr.cell? ⟨bp, 0, none⟩ = some (.slice (some ⟨g2, 0, none⟩) (q.length + 1) cap2) ∧ wr.frozen? ⟨bp, 0, none⟩ = false ∧ OwnQ base wr (.slice (some ⟨g2, 0, none⟩) (q.length + 1) cap2) qk ∧ Turn (qown bp ov q) w wr ∧ ∀ g, (some g2 = some g ∨ ∃ i, i < qk.length ∧ (qAt qk i).2.ownBlock = some g) → (ov.ownBlock = some g ∨ ∃ i, i < q.length ∧ (qAt q i).2.ownBlock = some g) ∨ w.heap.size ≤ g) (fun i _ => (intOf i).toNat)
    case atStart => exact ⟨q.length, q1, by omega, hq1l, rfl, rfl, hc3, hf3, hO3, hT, own1⟩
    case round =>
      clear hc3 hf3 hO3 hT own1 bpo hq1l
      obtain ⟨k, qk, hk, hql, rfl, hbub, hc, hfz, hOk, hTk, hown⟩ := hrel
      rename World => wr
      have k0 := cell_regrown hc
      cases k with
      | zero =>
        have hd : decide ((0 : Int) < ((0 : Nat) : Int)) = false := rfl
        go_wp2_with fail
        refine wp_region_quiet_below (by kernel_rfl) (by kernel_rfl) ?_
        repeat (go_big_quiet_step (fail))
        refine wpQuiet_nil ?_
        intro w4 hw4
        obtain ⟨⟨dq, osq⟩, hw5⟩ := hw4
        have hb4 : Below _ _ w4 := hw5 ▸ below_regrown _ dq osq
        clear hw5 k0
        go_wp2
        refine bodyPost_end (v := .tuple #[]) (by simp [results, Tryz.results126, go_sem]) rfl ⟨rfl, ex _ qk hql (cell_stays hb4 hc) (by rw [hb4.frozen (cell_lt hc)]; exact hfz) (hOk.stays hb4) (hTk.trans (own' := fun _ => False) (Turn.of_below hb4) (fun g h => h.elim)) hown hbub.out⟩
      | succ k' =>
        have hcl : ∀ i, i < q.length + 1 → wr.cell? ⟨g2, i * 3, none⟩ = some (.int .i64 (qAt qk i).1.t) ∧ wr.cell? ⟨g2, i * 3 + 1, none⟩ = some (.int .i64 (qAt qk i).1.r) ∧ wr.cell? ⟨g2, i * 3 + 2, none⟩ = some (qAt qk i).2 := fun i hi => by
          have hr := hOk.row
          rw [hql] at hr
          obtain ⟨e1, e2, e3⟩ := qcells_get qk i (by omega)
          exact ⟨by rw [hr.cellAt _ (by omega), e1], by rw [hr.cellAt _ (by omega), e2], by rw [hr.cellAt _ (by omega), e3]⟩
        obtain ⟨c0, c1, c2⟩ := hcl (k' + 1) hk
        obtain ⟨d0, d1, d2⟩ := hcl k' (by omega)
        have hb' : ∀ g, (some g2 = some g ∨ ∃ i, i < qk.length ∧ (qAt qk i).2.ownBlock = some g) → g ≠ bp := fun g hg => by
          rcases hown g hg with h | h
          · exact hbo g h
          · have := cell_lt hp; simp at this; omega
        have m0 := cell_regrown c0
        have m1 := cell_regrown c1
        have m3 := cell_regrown d0
        have m4 := cell_regrown d1
        have i0 : (0 : Int) ≤ (k' : Int) := by omega
        have i1' : (k' : Int) < (q.length : Int) := by omega
        have i2 : (k' : Int) + 1 < (q.length : Int) + 1 := by omega
        have i3 : (k' : Int) < (q.length : Int) + 1 := by omega
        have i4 : (k' : Int) ≤ 4194304 := by omega
        clear hcl
        by_cases hkl : klB (qAt qk (k' + 1)).1.t (qAt qk (k' + 1)).1.r (qAt qk k').1.t (qAt qk k').1.r = true
        · go_wp2_with fail
          refine wp_region_quiet_below (by kernel_rfl) (by kernel_rfl) ?_
          repeat (go_big_quiet_step (first | (go_at_call 99; exact Calls.regrown_of (specKeyLess_any _ _ _ _ _))))
          refine wpQuiet_nil ?_
          intro w4 hw4
          obtain ⟨⟨dq, osq⟩, hw5⟩ := hw4
          have hb4 : Below _ _ w4 := hw5 ▸ below_regrown _ dq osq
          clear hw5 k0 m0 m1 m3 m4
          have hOk4 := hOk.stays hb4
          have hTk4 : Turn (qown bp ov q) w w4 := hTk.trans (own' := fun _ => False) (Turn.of_below hb4) (fun g h => h.elim)
          replace c0 := cell_stays hb4 c0
          replace c1 := cell_stays hb4 c1
          replace c2 := cell_stays hb4 c2
          replace d0 := cell_stays hb4 d0
          replace d1 := cell_stays hb4 d1
          replace d2 := cell_stays hb4 d2
          replace hfz : w4.frozen? ⟨bp, 0, none⟩ = false := by rw [hb4.frozen (cell_lt hc)]; exact hfz
          replace hc := cell_stays hb4 hc
          have hrow4 := hOk4.row
          rw [hql] at hrow4
          have fz : ∀ j, w4.frozen? ⟨g2, j, none⟩ = false := fun j => hrow4.frozenAt j
          obtain ⟨a1, n1, cp1, hv1⟩ := owns_slice (hOk.lists (k' + 1) (by omega))
          obtain ⟨a0, n0, cp0, hv0⟩ := owns_slice (hOk.lists k' (by omega))
          rw [hv1] at c2
          rw [hv0] at d2
          have HK : Hid (klB (qAt qk (k' + 1)).1.t (qAt qk (k' + 1)).1.r (qAt qk k').1.t (qAt qk k').1.r = true) := hkl
          clear hkl hb4 hOk hTk
          go_wp2_with fail
          have b5 := below_alloc w4 (Obj.cells #[.int .i64 (qAt qk (k' + 1)).1.t, .int .i64 (qAt qk (k' + 1)).1.r, .slice a1 n1 cp1] 94)
          have x0 : (w4.alloc (Obj.cells #[.int .i64 (qAt qk (k' + 1)).1.t, .int .i64 (qAt qk (k' + 1)).1.r, .slice a1 n1 cp1] 94)).cell? ⟨w4.heap.size, 0, none⟩ = some (.int .i64 (qAt qk (k' + 1)).1.t) := by simp [go_sem]
          have x1 : (w4.alloc (Obj.cells #[.int .i64 (qAt qk (k' + 1)).1.t, .int .i64 (qAt qk (k' + 1)).1.r, .slice a1 n1 cp1] 94)).cell? ⟨w4.heap.size, 1, none⟩ = some (.int .i64 (qAt qk (k' + 1)).1.r) := by simp [go_sem]
          have x2 : (w4.alloc (Obj.cells #[.int .i64 (qAt qk (k' + 1)).1.t, .int .i64 (qAt qk (k' + 1)).1.r, .slice a1 n1 cp1] 94)).cell? ⟨w4.heap.size, 2, none⟩ = some (.slice a1 n1 cp1) := by simp [go_sem]
          have hg2l : g2 < w4.heap.size := cell_lt c0
          have hbpl : bp < w4.heap.size := cell_lt hc
          have hz5 := b5.size
          replace hOk4 := hOk4.stays b5
          replace hTk4 : Turn (qown bp ov q) w _ := hTk4.trans (own' := fun _ => False) (Turn.of_below b5) (fun g h => h.elim)
          replace c0 := cell_stays b5 c0
          replace c1 := cell_stays b5 c1
          replace c2 := cell_stays b5 c2
          replace d0 := cell_stays b5 d0
          replace d1 := cell_stays b5 d1
          replace d2 := cell_stays b5 d2
          replace hfz : (w4.alloc (Obj.cells #[.int .i64 (qAt qk (k' + 1)).1.t, .int .i64 (qAt qk (k' + 1)).1.r, .slice a1 n1 cp1] 94)).frozen? ⟨bp, 0, none⟩ = false := by rw [b5.frozen (cell_lt hc)]; exact hfz
          replace hc := cell_stays b5 hc
          replace hrow4 := hrow4.alloc (Obj.cells #[.int .i64 (qAt qk (k' + 1)).1.t, .int .i64 (qAt qk (k' + 1)).1.r, .slice a1 n1 cp1] 94)
          clear fz
          generalize (w4.alloc (Obj.cells #[.int .i64 (qAt qk (k' + 1)).1.t, .int .i64 (qAt qk (k' + 1)).1.r, .slice a1 n1 cp1] 94)) = w5 at *
          have hwk : IntKind.i64.wrap (k' : Int) = (k' : Int) := by rw [IntKind.wrap_i64]; omega
          have i5 : (0 : Int) ≤ (k' : Int) + 1 := by omega
          have f0 : w5.frozen? ⟨g2, (k' + 1) * 3, none⟩ = false := hrow4.frozenAt _
          have f1 : w5.frozen? ⟨g2, (k' + 1) * 3 + 1, none⟩ = false := hrow4.frozenAt _
          have f2 : w5.frozen? ⟨g2, (k' + 1) * 3 + 2, none⟩ = false := hrow4.frozenAt _
          refine region_last (fun y => y.cell? ⟨bp, 0, none⟩ = some (.slice (some ⟨g2, 0, none⟩) (q.length + 1) cap2) ∧ y.cell? ⟨g2, k' * 3, none⟩ = some (.int .i64 (qAt qk k').1.t) ∧ y.cell? ⟨g2, k' * 3 + 1, none⟩ = some (.int .i64 (qAt qk k').1.r) ∧ y.cell? ⟨g2, k' * 3 + 2, none⟩ = some (.slice a0 n0 cp0)) (by kernel_rfl) (by kernel_rfl) (by kernel_rfl) ⟨hc, d0, d1, d2⟩ (fun hHeld => ?_)
          simp only [List.dropLast, List.length_cons, List.length_nil, Nat.reduceAdd]
          refine takeL (i := 0) (v := ?_) rfl (by kernel_rfl) (by kernel_rfl) (by kernel_rfl) (fun _ _ _ h => h) rfl (by assumption) ?_ ?_
          rotate_left
          · (intro wS hSw; (try dsimp only at hSw); go_simp; try with_reducible rfl)
          (try simp only [Act.put, List.setIfInBounds_toArray, List.set_cons_zero, List.set_cons_succ])
          refine takeL (i := 1) (v := ?_) rfl (by kernel_rfl) (by kernel_rfl) (by kernel_rfl) (fun _ _ _ h => h) rfl (by assumption) ?_ ?_
          rotate_left
          · (intro wS hSw; (try dsimp only at hSw); go_simp; try with_reducible rfl)
          (try simp only [Act.put, List.setIfInBounds_toArray, List.set_cons_zero, List.set_cons_succ])
          refine takeL (i := 2) (v := ?_) rfl (by kernel_rfl) (by kernel_rfl) (by kernel_rfl) (fun _ _ _ h => h) rfl (by assumption) ?_ ?_
          rotate_left
          · (intro wS hSw; (try dsimp only at hSw); go_simp; try with_reducible rfl)
          (try simp only [Act.put, List.setIfInBounds_toArray, List.set_cons_zero, List.set_cons_succ])
          refine takeL (i := 3) (v := ?_) rfl (by kernel_rfl) (by kernel_rfl) (by kernel_rfl) (fun _ _ _ h => h) rfl (by assumption) ?_ ?_
          rotate_left
          · (intro wS hSw; (try dsimp only at hSw); go_simp; try with_reducible rfl)
          (try simp only [Act.put, List.setIfInBounds_toArray, List.set_cons_zero, List.set_cons_succ])
          refine takeL (i := 4) (v := ?_) rfl (by kernel_rfl) (by kernel_rfl) (by kernel_rfl) (fun _ _ _ h => h) rfl (by assumption) ?_ ?_
          rotate_left
          · (intro wS hSw; (try dsimp only at hSw); go_simp; try with_reducible rfl)
          (try simp only [Act.put, List.setIfInBounds_toArray, List.set_cons_zero, List.set_cons_succ])
          refine takeL (i := 5) (v := ?_) rfl (by kernel_rfl) (by kernel_rfl) (by kernel_rfl) (fun _ _ _ h => h) rfl (by assumption) ?_ ?_
          rotate_left
          · (intro wS hSw; (try dsimp only at hSw); go_simp; try with_reducible rfl)
          (try simp only [Act.put, List.setIfInBounds_toArray, List.set_cons_zero, List.set_cons_succ])
          refine takeL (i := 6) (v := ?_) rfl (by kernel_rfl) (by kernel_rfl) (by kernel_rfl) (fun _ _ _ h => h) rfl (by assumption) ?_ ?_
          rotate_left
          · (intro wS hSw; (try dsimp only at hSw); go_simp; try with_reducible rfl)
          (try simp only [Act.put, List.setIfInBounds_toArray, List.set_cons_zero, List.set_cons_succ])
          refine takeL (i := 7) (v := ?_) rfl (by kernel_rfl) (by kernel_rfl) (by kernel_rfl) (fun _ _ _ h => h) rfl (by assumption) ?_ ?_
          rotate_left
          · (intro wS hSw; (try dsimp only at hSw); go_simp; try with_reducible rfl)
          (try simp only [Act.put, List.setIfInBounds_toArray, List.set_cons_zero, List.set_cons_succ])
          refine takeL (i := 8) (v := ?_) rfl (by kernel_rfl) (by kernel_rfl) (by kernel_rfl) (fun _ _ _ h => h) rfl (by assumption) ?_ ?_
          rotate_left
          · (intro wS hSw; (try dsimp only at hSw); go_simp; try with_reducible rfl)
          (try simp only [Act.put, List.setIfInBounds_toArray, List.set_cons_zero, List.set_cons_succ])
          refine takeL (i := 9) (v := ?_) rfl (by kernel_rfl) (by kernel_rfl) (by kernel_rfl) (fun _ _ _ h => h) rfl (by assumption) ?_ ?_
          rotate_left
          · (intro wS hSw; (try dsimp only at hSw); go_simp; try with_reducible rfl)
          (try simp only [Act.put, List.setIfInBounds_toArray, List.set_cons_zero, List.set_cons_succ])
          refine takeL (i := 10) (v := ?_) rfl (by kernel_rfl) (by kernel_rfl) (by kernel_rfl) (fun _ _ _ h => h) rfl (by assumption) ?_ ?_
          rotate_left
          · (intro wS hSw; (try dsimp only at hSw); go_simp; try with_reducible rfl)
          (try simp only [Act.put, List.setIfInBounds_toArray, List.set_cons_zero, List.set_cons_succ])
          refine takeL (i := 11) (v := ?_) rfl (by kernel_rfl) (by kernel_rfl) (by kernel_rfl) (fun _ _ _ h => h) rfl (by assumption) ?_ ?_
          rotate_left
          · (intro wS hSw; (try dsimp only at hSw); go_simp; try with_reducible rfl)
          (try simp only [Act.put, List.setIfInBounds_toArray, List.set_cons_zero, List.set_cons_succ])
          refine takeL (i := 12) (v := ?_) rfl (by kernel_rfl) (by kernel_rfl) (by kernel_rfl) (fun _ _ _ h => h) rfl (by assumption) ?_ ?_
          rotate_left
          · (intro wS hSw; (try dsimp only at hSw); go_simp; try with_reducible rfl)
          (try simp only [Act.put, List.setIfInBounds_toArray, List.set_cons_zero, List.set_cons_succ])
          refine takeL (i := 13) (v := ?_) rfl (by kernel_rfl) (by kernel_rfl) (by kernel_rfl) (fun _ _ _ h => h) rfl (by assumption) ?_ ?_
          rotate_left
          · (intro wS hSw; (try dsimp only at hSw); go_simp; try with_reducible rfl)
          (try simp only [Act.put, List.setIfInBounds_toArray, List.set_cons_zero, List.set_cons_succ])
          refine wpAnyH_done (by kernel_rfl) ?_ _
          refine lastL (n := 14) rfl rfl ?_
          go_simp
          obtain ⟨s1, t1⟩ := hrow4.stored ((k' + 1) * 3) (.int .i64 (qAt qk k').1.t)
          obtain ⟨s2, t2⟩ := s1.stored ((k' + 1) * 3 + 1) (.int .i64 (qAt qk k').1.r)
          obtain ⟨s3, t3⟩ := s2.stored ((k' + 1) * 3 + 2) (.slice a0 n0 cp0)
          rw [← hv0, qcells_set qk (k' + 1) (qAt qk k') (by omega), hv0] at s3
          have tt := gb_trans (gb_trans t1 t2) t3
          have y0 := cell_same (tt.block bp (cell_lt hc) (fun e => hg2b (by injection e with e; exact e.symm))) hc
          have y1 := cell_same (tt.block w4.heap.size (cell_lt x0) (fun e => by injection e with e; omega)) x0
          have y2 := cell_same (tt.block w4.heap.size (cell_lt x0) (fun e => by injection e with e; omega)) x1
          have y3 := cell_same (tt.block w4.heap.size (cell_lt x0) (fun e => by injection e with e; omega)) x2
          have hfz6 := (frozen_same (o := 0) (tt.block bp (cell_lt hc) (fun e => hg2b (by injection e with e; exact e.symm)))).trans hfz
          generalize ((w5.setCell ⟨g2, (k' + 1) * 3, none⟩ (.int .i64 (qAt qk k').1.t)).setCell ⟨g2, (k' + 1) * 3 + 1, none⟩ (.int .i64 (qAt qk k').1.r)).setCell ⟨g2, (k' + 1) * 3 + 2, none⟩ (.slice a0 n0 cp0) = w6 at *
          clear c0 c1 c2 d0 d1 d2 f0 f1 f2 hHeld s1 s2 t1 t2 t3
          have hlen6 : (qk.set (k' + 1) (qAt qk k')).length = q.length + 1 := by simp [hql]
          obtain ⟨e0, e1, e2⟩ := qcells_get (qk.set (k' + 1) (qAt qk k')) k' (by omega)
          have g0' := (s3.cellAt (k' * 3) (by omega)).trans e0
          have g1' := (s3.cellAt (k' * 3 + 1) (by omega)).trans e1
          have g2' := (s3.cellAt (k' * 3 + 2) (by omega)).trans e2
          have h0' : w6.frozen? ⟨g2, k' * 3, none⟩ = false := s3.frozenAt _
          have h1' : w6.frozen? ⟨g2, k' * 3 + 1, none⟩ = false := s3.frozenAt _
          have h2' : w6.frozen? ⟨g2, k' * 3 + 2, none⟩ = false := s3.frozenAt _
          clear e0 e1 e2
          go_wp2_with fail
          refine region_last (fun y => y.cell? ⟨bp, 0, none⟩ = some (.slice (some ⟨g2, 0, none⟩) (q.length + 1) cap2) ∧ y.cell? ⟨w4.heap.size, 0, none⟩ = some (.int .i64 (qAt qk (k' + 1)).1.t) ∧ y.cell? ⟨w4.heap.size, 1, none⟩ = some (.int .i64 (qAt qk (k' + 1)).1.r) ∧ y.cell? ⟨w4.heap.size, 2, none⟩ = some (.slice a1 n1 cp1)) (by kernel_rfl) (by kernel_rfl) (by kernel_rfl) ⟨y0, y1, y2, y3⟩ (fun hHeld => ?_)
          simp only [List.dropLast, List.length_cons, List.length_nil, Nat.reduceAdd]
          refine takeL (i := 0) (v := ?_) rfl (by kernel_rfl) (by kernel_rfl) (by kernel_rfl) (fun _ _ _ h => h) rfl (by assumption) ?_ ?_
          rotate_left
          · (intro wS hSw; (try dsimp only at hSw); go_simp; try with_reducible rfl)
          (try simp only [Act.put, List.setIfInBounds_toArray, List.set_cons_zero, List.set_cons_succ])
          refine takeL (i := 1) (v := ?_) rfl (by kernel_rfl) (by kernel_rfl) (by kernel_rfl) (fun _ _ _ h => h) rfl (by assumption) ?_ ?_
          rotate_left
          · (intro wS hSw; (try dsimp only at hSw); go_simp; try with_reducible rfl)
          (try simp only [Act.put, List.setIfInBounds_toArray, List.set_cons_zero, List.set_cons_succ])
          refine takeL (i := 2) (v := ?_) rfl (by kernel_rfl) (by kernel_rfl) (by kernel_rfl) (fun _ _ _ h => h) rfl (by assumption) ?_ ?_
          rotate_left
          · (intro wS hSw; (try dsimp only at hSw); go_simp; try with_reducible rfl)
          (try simp only [Act.put, List.setIfInBounds_toArray, List.set_cons_zero, List.set_cons_succ])
          refine takeL (i := 3) (v := ?_) rfl (by kernel_rfl) (by kernel_rfl) (by kernel_rfl) (fun _ _ _ h => h) rfl (by assumption) ?_ ?_
          rotate_left
          · (intro wS hSw; (try dsimp only at hSw); go_simp; try with_reducible rfl)
          (try simp only [Act.put, List.setIfInBounds_toArray, List.set_cons_zero, List.set_cons_succ])
          refine takeL (i := 4) (v := ?_) rfl (by kernel_rfl) (by kernel_rfl) (by kernel_rfl) (fun _ _ _ h => h) rfl (by assumption) ?_ ?_
          rotate_left
          · (intro wS hSw; (try dsimp only at hSw); go_simp; try with_reducible rfl)
          (try simp only [Act.put, List.setIfInBounds_toArray, List.set_cons_zero, List.set_cons_succ])
          refine takeL (i := 5) (v := ?_) rfl (by kernel_rfl) (by kernel_rfl) (by kernel_rfl) (fun _ _ _ h => h) rfl (by assumption) ?_ ?_
          rotate_left
          · (intro wS hSw; (try dsimp only at hSw); go_simp; try with_reducible rfl)
          (try simp only [Act.put, List.setIfInBounds_toArray, List.set_cons_zero, List.set_cons_succ])
          refine takeL (i := 6) (v := ?_) rfl (by kernel_rfl) (by kernel_rfl) (by kernel_rfl) (fun _ _ _ h => h) rfl (by assumption) ?_ ?_
          rotate_left
          · (intro wS hSw; (try dsimp only at hSw); go_simp; try with_reducible rfl)
          (try simp only [Act.put, List.setIfInBounds_toArray, List.set_cons_zero, List.set_cons_succ])
          refine takeL (i := 7) (v := ?_) rfl (by kernel_rfl) (by kernel_rfl) (by kernel_rfl) (fun _ _ _ h => h) rfl (by assumption) ?_ ?_
          rotate_left
          · (intro wS hSw; (try dsimp only at hSw); go_simp; try with_reducible rfl)
          (try simp only [Act.put, List.setIfInBounds_toArray, List.set_cons_zero, List.set_cons_succ])
          refine wpAnyH_done (by kernel_rfl) ?_ _
          refine lastL (n := 8) rfl rfl ?_
          go_simp
          obtain ⟨s4, t4⟩ := s3.stored (k' * 3) (.int .i64 (qAt qk (k' + 1)).1.t)
          obtain ⟨s5, t5⟩ := s4.stored (k' * 3 + 1) (.int .i64 (qAt qk (k' + 1)).1.r)
          obtain ⟨s6, t6⟩ := s5.stored (k' * 3 + 2) (.slice a1 n1 cp1)
          rw [← hv1, qcells_set (qk.set (k' + 1) (qAt qk k')) k' (qAt qk (k' + 1)) (by omega), hv1] at s6
          have tu := gb_trans (gb_trans t4 t5) t6
          have z0 := cell_same (tu.block bp (cell_lt y0) (fun e => hg2b (by injection e with e; exact e.symm))) y0
          have hfz7 := (frozen_same (o := 0) (tu.block bp (cell_lt y0) (fun e => hg2b (by injection e with e; exact e.symm)))).trans hfz6
          generalize ((w6.setCell ⟨g2, k' * 3, none⟩ (.int .i64 (qAt qk (k' + 1)).1.t)).setCell ⟨g2, k' * 3 + 1, none⟩ (.int .i64 (qAt qk (k' + 1)).1.r)).setCell ⟨g2, k' * 3 + 2, none⟩ (.slice a1 n1 cp1) = w7 at *
          clear g0' g1' g2' h0' h1' h2' hHeld s4 s5 t4 t5 t6
          have tv := gb_trans tt tu
          have hO7 : OwnQ base w7 (.slice (some ⟨g2, 0, none⟩) (q.length + 1) cap2) (swp qk k') := hOk4.swap (by omega) (by rw [hql]; exact s6) (fun g hg hne => tv.block g hg (fun e => hne e.symm))
          have hT7 : Turn (qown bp ov q) w w7 := hTk4.grown tv fun g hg => by
            rcases hown g (.inl hg) with h | h
            · exact .inl (.inr h)
            · exact .inr h
          have hb7 : Hid (bub (qchs (swp qk k')) k' = bub (qchs q1) q.length) := by
            have h1 := hbub.out
            rw [bub, qchs_at qk (by omega), qchs_at qk (show k' < qk.length by omega), if_pos HK.out] at h1
            rw [qchs_swp qk (by omega)]
            exact h1
          have ho7 : ∀ g, (some g2 = some g ∨ ∃ i, i < (swp qk k').length ∧ (qAt (swp qk k') i).2.ownBlock = some g) → (ov.ownBlock = some g ∨ ∃ i, i < q.length ∧ (qAt q i).2.ownBlock = some g) ∨ w.heap.size ≤ g := fun g hg => by
            rcases hg with hg | ⟨i, hi, hg⟩
            · exact hown g (.inl hg)
            · rw [swp_length] at hi
              obtain ⟨i', hi', e, _⟩ := swp_at qk (show k' + 1 < qk.length by omega) i hi
              exact hown g (.inr ⟨i', hi', by rw [← e]; exact hg⟩)
          go_wp2
          go_roundw
          case rel => exact ⟨k', swp qk k', by omega, by rw [swp_length]; exact hql, by go_num, hb7, z0, hfz7, hO7.keep (fun _ _ _ => rfl), hT7.drew.drew, ho7⟩
          case measure => simp [intOf]
        · have hkf : klB (qAt qk (k' + 1)).1.t (qAt qk (k' + 1)).1.r (qAt qk k').1.t (qAt qk k').1.r = false := by simpa using hkl
          have hbe : qchs qk = bub (qchs q1) q.length := by
            have h1 := hbub.out
            rw [bub, qchs_at qk (by omega), qchs_at qk (show k' < qk.length by omega), if_neg hkl] at h1
            exact h1
          clear hkl hbub
          go_wp2_with fail
          refine wp_region_quiet_below (by kernel_rfl) (by kernel_rfl) ?_
          repeat (go_big_quiet_step (first | (go_at_call 99; exact Calls.regrown_of (specKeyLess_any _ _ _ _ _))))
          refine wpQuiet_nil ?_
          intro w4 hw4
          obtain ⟨⟨dq, osq⟩, hw5⟩ := hw4
          have hb4 : Below _ _ w4 := hw5 ▸ below_regrown _ dq osq
          clear hw5 k0 m0 m1 m3 m4
          go_wp2
          refine bodyPost_end (v := .tuple #[]) (by simp [results, Tryz.results126, go_sem]) rfl ⟨rfl, ex _ qk hql (cell_stays hb4 hc) (by rw [hb4.frozen (cell_lt hc)]; exact hfz) (hOk.stays hb4) (hTk.trans (own' := fun _ => False) (Turn.of_below hb4) (fun g h => h.elim)) hown hbe⟩
  · rw [qchs_length] at hnl
    have hn1 := hs n hnl
    obtain ⟨g0, cap0, hov, hg0, hg0l⟩ := hO.row.form (by omega)
    obtain ⟨g1, cap1, hlv, hg1, hg1l⟩ := (hO.lists n hnl).form (by omega)
    subst hov
    have n0 : (0 : Int) ≤ (n : Int) := by omega
    have n1 : (n : Int) < (q.length : Int) := by omega
    have hcL : w1.cell? ⟨g0, n * 3 + 2, none⟩ = some (.slice (some ⟨g1, 0, none⟩) (qAt q n).1.l.length cap1) := by
      rw [hO1.row.cellAt _ (by omega), (qcells_get q n hnl).2.2, hlv]
    have hfL : w1.frozen? ⟨g0, n * 3 + 2, none⟩ = false := hO1.row.frozenAt _
    clear hs
    have hz1 := b1.size
    have hlo : ∀ g, g < w.heap.size → g < w1.heap.size := fun g hg => by omega
    obtain ⟨i1, hI1, hy0, hy1, hy2⟩ := info_parts infoVer
    go_wp2_with fail
    refine region_last (fun y => y.cell? ⟨bp, 0, none⟩ = some (.slice (some ⟨g0, 0, none⟩) q.length cap0) ∧ y.cell? ⟨w.heap.size + 1, 0, none⟩ = some (.int .i64 x.1) ∧ y.cell? ⟨w.heap.size + 1, 1, none⟩ = some (.int .i64 x.2) ∧ y.cell? ⟨g0, n * 3 + 2, none⟩ = some (.slice (some ⟨g1, 0, none⟩) (qAt q n).1.l.length cap1)) (by kernel_rfl) (by kernel_rfl) (by kernel_rfl) ⟨r0, r3, r4, hcL⟩ (fun hHeld => ?_)
    simp only [List.dropLast, List.length_cons, List.length_nil, Nat.reduceAdd]
    refine takeL (i := 0) (v := ?_) rfl (by kernel_rfl) (by kernel_rfl) (by kernel_rfl) (fun _ _ _ h => h) rfl (by assumption) ?_ ?_
    rotate_left
    · (intro wS hSw; (try dsimp only at hSw); go_simp; try with_reducible rfl)
    (try simp only [Act.put, List.setIfInBounds_toArray, List.set_cons_zero, List.set_cons_succ])
    refine takeL (i := 1) (v := ?_) rfl (by kernel_rfl) (by kernel_rfl) (by kernel_rfl) (fun _ _ _ h => h) rfl (by assumption) ?_ ?_
    rotate_left
    · (intro wS hSw; (try dsimp only at hSw); go_simp; try with_reducible rfl)
    (try simp only [Act.put, List.setIfInBounds_toArray, List.set_cons_zero, List.set_cons_succ])
    refine takeL (i := 2) (v := ?_) rfl (by kernel_rfl) (by kernel_rfl) (by kernel_rfl) (fun _ _ _ h => h) rfl (by assumption) ?_ ?_
    rotate_left
    · (intro wS hSw; (try dsimp only at hSw); go_simp; try with_reducible rfl)
    (try simp only [Act.put, List.setIfInBounds_toArray, List.set_cons_zero, List.set_cons_succ])
    refine takeL (i := 3) (v := ?_) rfl (by kernel_rfl) (by kernel_rfl) (by kernel_rfl) (fun _ _ _ h => h) rfl (by assumption) ?_ ?_
    rotate_left
    · (intro wS hSw; (try dsimp only at hSw); go_simp; try with_reducible rfl)
    (try simp only [Act.put, List.setIfInBounds_toArray, List.set_cons_zero, List.set_cons_succ])
    refine takeL (i := 4) (v := ?_) rfl (by kernel_rfl) (by kernel_rfl) (by kernel_rfl) (fun _ _ _ h => h) rfl (by assumption) ?_ ?_
    rotate_left
    · (intro wS hSw; (try dsimp only at hSw); go_simp; try with_reducible rfl)
    (try simp only [Act.put, List.setIfInBounds_toArray, List.set_cons_zero, List.set_cons_succ])
    refine takeL (i := 5) (v := ?_) rfl (by kernel_rfl) (by kernel_rfl) (by kernel_rfl) (fun _ _ _ h => h) rfl (by assumption) ?_ ?_
    rotate_left
    · (intro wS hSw; (try dsimp only at hSw); go_simp; try with_reducible rfl)
    (try simp only [Act.put, List.setIfInBounds_toArray, List.set_cons_zero, List.set_cons_succ])
    refine takeL (i := 6) (v := ?_) rfl (by kernel_rfl) (by kernel_rfl) (by kernel_rfl) (fun _ _ _ h => h) rfl (by assumption) ?_ ?_
    rotate_left
    · (intro wS hSw; (try dsimp only at hSw); go_simp; try with_reducible rfl)
    (try simp only [Act.put, List.setIfInBounds_toArray, List.set_cons_zero, List.set_cons_succ])
    refine takeL (i := 7) (v := ?_) rfl (by kernel_rfl) (by kernel_rfl) (by kernel_rfl) (fun _ _ _ h => h) rfl (by assumption) ?_ ?_
    rotate_left
    · (intro wS hSw; (try dsimp only at hSw); go_simp; try with_reducible rfl)
    (try simp only [Act.put, List.setIfInBounds_toArray, List.set_cons_zero, List.set_cons_succ])
    refine takeL (i := 8) (v := ?_) rfl (by kernel_rfl) (by kernel_rfl) (by kernel_rfl) (fun _ _ _ h => h) rfl (by assumption) ?_ ?_
    rotate_left
    · (intro wS hSw; (try dsimp only at hSw); go_simp; try with_reducible rfl)
    (try simp only [Act.put, List.setIfInBounds_toArray, List.set_cons_zero, List.set_cons_succ])
    refine takeL (i := 9) (v := ?_) rfl (by kernel_rfl) (by kernel_rfl) (by kernel_rfl) (fun _ _ _ h => h) rfl (by assumption) ?_ ?_
    rotate_left
    · (intro wS hSw; (try dsimp only at hSw); go_simp; try with_reducible rfl)
    (try simp only [Act.put, List.setIfInBounds_toArray, List.set_cons_zero, List.set_cons_succ])
    refine takeL (i := 10) (v := ?_) rfl (by kernel_rfl) (by kernel_rfl) (by kernel_rfl) (fun _ _ _ h => h) rfl (by assumption) ?_ ?_
    rotate_left
    · (intro wS hSw; (try dsimp only at hSw); go_simp; try with_reducible rfl)
    (try simp only [Act.put, List.setIfInBounds_toArray, List.set_cons_zero, List.set_cons_succ])
    refine takeL (i := 11) (v := ?_) rfl (by kernel_rfl) (by kernel_rfl) (by kernel_rfl) (fun _ _ _ h => h) rfl (by assumption) ?_ ?_
    rotate_left
    · (intro wS hSw; (try dsimp only at hSw); go_simp; try with_reducible rfl)
    (try simp only [Act.put, List.setIfInBounds_toArray, List.set_cons_zero, List.set_cons_succ])
    refine takeL (i := 12) (v := ?_) rfl (by kernel_rfl) (by kernel_rfl) (by kernel_rfl) (fun _ _ _ h => h) rfl (by assumption) ?_ ?_
    rotate_left
    · (intro wS hSw; (try dsimp only at hSw); go_simp; try with_reducible rfl)
    (try simp only [Act.put, List.setIfInBounds_toArray, List.set_cons_zero, List.set_cons_succ])
    refine takeL (i := 13) (v := ?_) rfl (by kernel_rfl) (by kernel_rfl) (by kernel_rfl) (fun _ _ _ h => h) rfl (by assumption) ?_ ?_
    rotate_left
    · (intro wS hSw; (try dsimp only at hSw); go_simp; try with_reducible rfl)
    (try simp only [Act.put, List.setIfInBounds_toArray, List.set_cons_zero, List.set_cons_succ])
    refine stepL (i := 14) rfl (by kernel_rfl) (fun K hK => ?_)
    rw [if_pos (by rfl)]
    go_simp
    have b2 := below_alloc w1 (Obj.cells #[.int .i64 x.1, .int .i64 x.2] 123)
    refine hK.out _ _ ⟨cell_stays b2 r0, cell_stays b2 r3, cell_stays b2 r4, cell_stays b2 hcL⟩ (fun hHeld2 => ?_)
    clear hK K hHeld
    (try simp only [Act.put, List.setIfInBounds_toArray, List.set_cons_zero, List.set_cons_succ])
    refine stepL (i := 15) rfl (by kernel_rfl) (fun K hK => ?_)
    refine step_append_lies _ (by rfl) _ _ _ (by rfl) base 123 i1 _ 2 16 Tryz.underlying92 hI1 hy0 hy1 hy2 rfl (by omega) (.slice (some ⟨g1, 0, none⟩) (qAt q n).1.l.length cap1) (qAt q n).1.l.length (vcells (qAt q n).1.l) (by rfl) (by have := (hO1.lists n hnl).alloc (Obj.cells #[.int .i64 x.1, .int .i64 x.2] 123); rw [hlv] at this; exact this) ⟨w1.heap.size, 0, none⟩ 1 1 [.int .i64 x.1, .int .i64 x.2] (by rfl) (by rfl) (World.news_of_block (heap_alloc_new w1 _)) (by simp [Value.oneCell']) (by omega) (by unfold maxLen; omega) (by omega) (by show _ ≤ (w1.alloc _).heap.size; simp; omega) (w1.heap.size + 1) (by show (w1.alloc _).heap.size = _; simp) ?_
    intro g2 cap2 w2 hown2 hgrow2 hat2 hlt2
    have hz2 : w1.heap.size + 1 ≤ w2.heap.size := by have := hgrow2.size; simpa using this
    have kb : ∀ g, g < w1.heap.size → g ≠ g1 → w2.heap[g]? = w1.heap[g]? := fun g hg hne => (hgrow2.block g (by show _ < (w1.alloc _).heap.size; simp; omega) (fun e => hne (by cases e; rfl))).trans (b2.block g hg)
    have hne0 : g0 ≠ g1 := fun e => (hO.apart n hnl g1 (by rw [hlv]; rfl)).1 (by rw [e]; rfl)
    have hneb : bp ≠ g1 := Ne.symm (hbo g1 (.inr ⟨n, hnl, by rw [hlv]; rfl⟩))
    have u0 := cell_same (kb bp (cell_lt r0) hneb) r0
    have u3 := cell_same (kb (w.heap.size + 1) (cell_lt r3) (by omega)) r3
    have u4 := cell_same (kb (w.heap.size + 1) (cell_lt r3) (by omega)) r4
    have uL := cell_same (kb g0 (cell_lt hcL) hne0) hcL
    have uF : w2.frozen? ⟨g0, n * 3 + 2, none⟩ = false := (owns_keep hO1.row fun g hg hgl => by cases hg; exact kb _ hgl hne0).frozenAt _
    refine hK.out _ _ ⟨u0, u3, u4, uL⟩ (fun hHeld3 => ?_)
    clear hK K hHeld2
    (try simp only [Act.put, List.setIfInBounds_toArray, List.set_cons_zero, List.set_cons_succ])
    refine takeL (i := 16) (v := ?_) rfl (by kernel_rfl) (by kernel_rfl) (by kernel_rfl) (fun _ _ _ h => h) rfl (by assumption) ?_ ?_
    rotate_left
    · (intro wS hSw; (try dsimp only at hSw); go_simp; try with_reducible rfl)
    (try simp only [Act.put, List.setIfInBounds_toArray, List.set_cons_zero, List.set_cons_succ])
    refine takeL (i := 17) (v := ?_) rfl (by kernel_rfl) (by kernel_rfl) (by kernel_rfl) (fun _ _ _ h => h) rfl (by assumption) ?_ ?_
    rotate_left
    · (intro wS hSw; (try dsimp only at hSw); go_simp; try with_reducible rfl)
    (try simp only [Act.put, List.setIfInBounds_toArray, List.set_cons_zero, List.set_cons_succ])
    refine wpAnyH_done (by kernel_rfl) ?_ _
    refine lastL (n := 18) rfl rfl ?_
    go_simp
    have hrow2 := owns_keep (w' := w2) hO1.row fun g hg hgl => by cases hg; exact kb _ hgl hne0
    obtain ⟨hst, hgr⟩ := hrow2.stored (n * 3 + 2) (.slice (some ⟨g2, 0, none⟩) ((qAt q n).1.l.length + 1) cap2)
    have hg20 : g2 ≠ g0 := fun e => by
      rcases hat2 with h | h
      · cases h; exact hne0 e.symm
      · have := (owns_lt hO1.row (g := g0) rfl).2; omega
    have kb3 : ∀ g, g < w1.heap.size → g ≠ g0 → g ≠ g1 → (w2.setCell ⟨g0, n * 3 + 2, none⟩ (.slice (some ⟨g2, 0, none⟩) ((qAt q n).1.l.length + 1) cap2)).heap[g]? = w1.heap[g]? := fun g hg e0 e1 => (Below.heap_setCell _ _ _ _ e0).trans (kb g hg e1)
    have hl2 := ownsRow_setCell_other hown2 (a := ⟨g0, n * 3 + 2, none⟩) (fun e => hg20 (by simpa [Value.ownBlock] using e)) (.slice (some ⟨g2, 0, none⟩) ((qAt q n).1.l.length + 1) cap2)
    have hkm' := hkm
    rw [km, qchs_at q hnl] at hkm'
    have hOs := hO1.setList (c := n) (ch := ⟨t, r, (qAt q n).1.l ++ [x]⟩) (lv := .slice (some ⟨g2, 0, none⟩) ((qAt q n).1.l.length + 1) cap2) (w' := w2.setCell ⟨g0, n * 3 + 2, none⟩ (.slice (some ⟨g2, 0, none⟩) ((qAt q n).1.l.length + 1) cap2)) hnl hkm'.1.symm hkm'.2.symm hst (by
      show World.ownsRow _ base _ 2 _ ((qAt q n).1.l ++ [x]).length (vcells ((qAt q n).1.l ++ [x]))
      rw [List.length_append, List.length_singleton, show [x] = [(x.1, x.2)] from rfl, vcells_snoc]
      exact hl2) (fun g hg => by
        rcases hat2 with h | h
        · left; rw [hlv]; cases hg; cases h; rfl
        · right; cases hg; show w1.heap.size ≤ g2; omega) (fun g hg e0 e1 => kb3 g hg (fun e => e0 (by rw [e]; rfl)) (fun e => e1 (by rw [hlv, e]; rfl)))
    have hT : Turn (qown bp (.slice (some ⟨g0, 0, none⟩) q.length cap0) q) w (w2.setCell ⟨g0, n * 3 + 2, none⟩ (.slice (some ⟨g2, 0, none⟩) ((qAt q n).1.l.length + 1) cap2)) := by
      refine Turn.setCell ?_ (.inl (.inr (.inl rfl))) _
      refine Turn.grown (Turn.of_below (b1.trans (b2.mono b1.size)).drew) hgrow2 fun g hg => ?_
      cases hg
      exact .inl (.inr (.inr ⟨n, hnl, by rw [hlv]; rfl⟩))
    have hgb : g0 ≠ bp := hbo g0 (.inl rfl)
    have hbw := cell_lt hp
    have hbb : (w2.setCell ⟨g0, n * 3 + 2, none⟩ (.slice (some ⟨g2, 0, none⟩) ((qAt q n).1.l.length + 1) cap2)).heap[bp]? = w.heap[bp]? := (kb3 bp (cell_lt r0) (Ne.symm hgb) hneb).trans (b1.block bp hbw)
    go_wp2
    refine bodyPost_ret (v := .tuple #[]) (by simp [results, Tryz.results126, go_sem]) rfl ⟨rfl, _, _, cell_same hbb hp, ?_, hOs, .inl ⟨n, by rw [qchs_length]; exact hnl, hkm, hfirst, ?_⟩, hT, fun g hg => ?_⟩
    · rw [frozen_same hbb]; exact hf
    · rw [qchs_set, qchs_at q hnl]
    · rcases hg with hg | ⟨i, hi, hg⟩
      · exact .inl (.inl hg)
      · have hi' : i < q.length := by simpa using hi
        by_cases e : i = n
        · subst e
          rw [qAt_set_eq _ _ hi'] at hg
          cases hg
          rcases hat2 with h | h
          · exact .inl (.inr ⟨i, hi', by rw [hlv]; exact h⟩)
          · right; show w.heap.size ≤ g2; omega
        · rw [qAt_set_ne _ _ (Ne.symm e)] at hg
          exact .inl (.inr ⟨i, hi', hg⟩)

end Go.Proofs.YtmecbppblbmchaaGreatDoor
