import Derived.Test.YtmecbppblbmchaaGreatDoorPutL
/- spec.l1own: a store's chains in memory of its own. -/
namespace Go.Proofs.YtmecbppblbmchaaGreatDoor
open Go.ChangeShapes Go.WideShapes Go.ChangeAt Go.RowKit Go.Maps Go.Sort
set_option linter.unusedVariables false
set_option maxRecDepth 100000
attribute [local go_sem ↓] Go.wp_at_zero Go.wp_at_succ

theorem take_snoc (l : List Ch) {k : Nat} (hk : k < l.length) : l.take (k + 1) = l.take k ++ [cAt l k] := by
  rw [List.take_add_one, List.getElem?_eq_getElem hk]
  simp [cAt, hk]

set_option maxHeartbeats 4000000 in
theorem l1own_any (v : Value) (l : List Ch) (w : World) {lo hi : Nat} (h : ChainsAt lo hi w v l) (hs : ∀ i, i < l.length → 0 < (cAt l i).l.length ∧ (cAt l i).l.length ≤ 1048576) (hn : l.length ≤ 1048576) :
    Calls Tryz.prog 61 #[.agg #[v]] w fun e w' => ∃ ov q, e = .returned (.agg #[ov]) ∧ OwnQ (w.heap.size + 3) w' ov q ∧ qchs q = l ∧ Below w.heap.size w w' := by
  obtain ⟨a, cap, hv, hm, hc⟩ := id h
  subst hv
  obtain ⟨i1, hI1, hy0, hy1, hy2⟩ := info_parts infoVer
  obtain ⟨i0, hI, hz0, hz1, hz2⟩ := info_parts infoChain'
  go_enter Tryz.func61, Tryz.ntmps61
  go_wp2
  go_loopw [4] (fun i wr => ∃ (k : Nat) (ov : Value) (q : List Qc), k ≤ l.length ∧ i = .int .i64 k ∧ q.length = k ∧ Hid (qchs q = l.take k) ∧ Below w.heap.size w wr ∧ w.heap.size + 3 ≤ wr.heap.size ∧ wr.cell? ⟨w.heap.size, 0, none⟩ = some (.slice a l.length cap) ∧ wr.cell? ⟨w.heap.size + 1, 0, none⟩ = some (.slice none 0 0) ∧ wr.frozen? ⟨w.heap.size + 1, 0, none⟩ = false ∧ wr.cell? ⟨w.heap.size + 1 + 1, 0, none⟩ = some ov ∧ wr.frozen? ⟨w.heap.size + 1 + 1, 0, none⟩ = false ∧ OwnQ (w.heap.size + 3) wr ov q) (fun i _ => l.length - (intOf i).toNat)
  case atStart =>
    refine ⟨0, _, [], Nat.zero_le _, rfl, rfl, rfl, (((Below.refl _ _).alloc (Nat.le_refl _) _).alloc (by simp) _).alloc (by simp; omega) _, by simp, by simp [go_sem], by simp [go_sem], by simp [go_sem], by simp [go_sem], by simp [go_sem], OwnQ.nil _ _⟩
  case round =>
    rename World => wo
    obtain ⟨k, ov, q, hk, rfl, hqk, hqc, hb, hsz, p0, p1, q1, p2, q2, hO⟩ := hrel
    by_cases hlt : k < l.length
    · obtain ⟨b, off, rfl, hlo, hhi, hcc⟩ := hc (by omega)
      obtain ⟨c0, c1, ca, cb, c2, c3⟩ := hcc k hlt
      have hbw : b < w.heap.size := cell_lt c0
      replace c0 := cell_stays hb c0
      replace c1 := cell_stays hb c1
      replace c2 := cell_stays hb c2
      replace c3 := c3.stays hb
      have hs1 := hs k hlt
      have i0' : (0 : Int) ≤ (k : Int) := by omega
      have i1' : (k : Int) < (l.length : Int) := by omega
      obtain ⟨b2, off2, rfl, hcl2⟩ := c3.cells hs1.1
      have HC := hcl2
      change Hid _ at HC
      have hkm : k + 1 ≤ 1048577 := by omega
      have S0 : ∀ x, Below wo.heap.size wo x → x.cell? ⟨w.heap.size, 0, none⟩ = some (.slice (some ⟨b, off, none⟩) l.length cap) ∧ x.cell? ⟨w.heap.size + 1 + 1, 0, none⟩ = some ov ∧ x.cell? ⟨b, off + k * 3, none⟩ = some (.int .i64 (cAt l k).t) ∧ x.cell? ⟨b, off + k * 3 + 1, none⟩ = some (.int .i64 (cAt l k).r) ∧ x.cell? ⟨b, off + k * 3 + 1 + 1, none⟩ = some (.slice (some ⟨b2, off2, none⟩) (cAt l k).l.length cb) := fun x hx => ⟨cell_stays hx p0, cell_stays hx p2, cell_stays hx c0, cell_stays hx c1, cell_stays hx c2⟩
      have bD := (Below.refl wo.heap.size wo).drew
      have bA : Below wo.heap.size wo (wo.alloc (Obj.cells #[] 123)).drew := ((Below.refl wo.heap.size wo).alloc (Nat.le_refl _) _).drew
      clear hcl2 hcc hc c0 c1 c2 c3 h
      go_wp2_with fail
      refine region_last (fun x => x.cell? ⟨w.heap.size, 0, none⟩ = some (.slice (some ⟨b, off, none⟩) l.length cap) ∧ x.cell? ⟨w.heap.size + 1 + 1, 0, none⟩ = some ov ∧ x.cell? ⟨b, off + k * 3, none⟩ = some (.int .i64 (cAt l k).t) ∧ x.cell? ⟨b, off + k * 3 + 1, none⟩ = some (.int .i64 (cAt l k).r) ∧ x.cell? ⟨b, off + k * 3 + 1 + 1, none⟩ = some (.slice (some ⟨b2, off2, none⟩) (cAt l k).l.length cb)) (by kernel_rfl) (by kernel_rfl) (by kernel_rfl) (S0 _ bD) (fun hHeld => ?_)
      simp only [List.dropLast, List.length_cons, List.length_nil, Nat.reduceAdd]
      refine takeL (i := 0) (v := ?_) rfl (by kernel_rfl) (by kernel_rfl) (by kernel_rfl) (fun _ _ _ h => h) rfl (by assumption) ?_ ?_
      rotate_left
      · (intro wS hSw; (try dsimp only at hSw); go_simp; try with_reducible rfl)
      (try simp only [Act.put, List.setIfInBounds_toArray, List.set_cons_zero, List.set_cons_succ])
      refine takeL (i := 1) (v := ?_) rfl (by kernel_rfl) (by kernel_rfl) (by kernel_rfl) (fun _ _ _ h => h) rfl (by assumption) ?_ ?_
      rotate_left
      · (intro wS hSw; (try dsimp only at hSw); go_simp; try with_reducible rfl)
      (try simp only [Act.put, List.setIfInBounds_toArray, List.set_cons_zero, List.set_cons_succ])
      refine takeL (i := 2) (v := ?_) rfl (by kernel_rfl) (by kernel_rfl) (by kernel_rfl) (fun _ _ _ h => h) rfl (by assumption) ?_ ?_
      rotate_left
      · (intro wS hSw; (try dsimp only at hSw); go_simp; try with_reducible rfl)
      (try simp only [Act.put, List.setIfInBounds_toArray, List.set_cons_zero, List.set_cons_succ])
      refine takeL (i := 3) (v := ?_) rfl (by kernel_rfl) (by kernel_rfl) (by kernel_rfl) (fun _ _ _ h => h) rfl (by assumption) ?_ ?_
      rotate_left
      · (intro wS hSw; (try dsimp only at hSw); go_simp; try with_reducible rfl)
      (try simp only [Act.put, List.setIfInBounds_toArray, List.set_cons_zero, List.set_cons_succ])
      refine takeL (i := 4) (v := ?_) rfl (by kernel_rfl) (by kernel_rfl) (by kernel_rfl) (fun _ _ _ h => h) rfl (by assumption) ?_ ?_
      rotate_left
      · (intro wS hSw; (try dsimp only at hSw); go_simp; try with_reducible rfl)
      (try simp only [Act.put, List.setIfInBounds_toArray, List.set_cons_zero, List.set_cons_succ])
      refine takeL (i := 5) (v := ?_) rfl (by kernel_rfl) (by kernel_rfl) (by kernel_rfl) (fun _ _ _ h => h) rfl (by assumption) ?_ ?_
      rotate_left
      · (intro wS hSw; (try dsimp only at hSw); go_simp; try with_reducible rfl)
      (try simp only [Act.put, List.setIfInBounds_toArray, List.set_cons_zero, List.set_cons_succ])
      refine takeL (i := 6) (v := ?_) rfl (by kernel_rfl) (by kernel_rfl) (by kernel_rfl) (fun _ _ _ h => h) rfl (by assumption) ?_ ?_
      rotate_left
      · (intro wS hSw; (try dsimp only at hSw); go_simp; try with_reducible rfl)
      (try simp only [Act.put, List.setIfInBounds_toArray, List.set_cons_zero, List.set_cons_succ])
      refine takeL (i := 7) (v := ?_) rfl (by kernel_rfl) (by kernel_rfl) (by kernel_rfl) (fun _ _ _ h => h) rfl (by assumption) ?_ ?_
      rotate_left
      · (intro wS hSw; (try dsimp only at hSw); go_simp; try with_reducible rfl)
      (try simp only [Act.put, List.setIfInBounds_toArray, List.set_cons_zero, List.set_cons_succ])
      refine takeL (i := 9) (v := ?_) rfl (by kernel_rfl) (by kernel_rfl) (by kernel_rfl) (fun _ _ _ h => h) rfl (by assumption) ?_ ?_
      rotate_left
      · (intro wS hSw; (try dsimp only at hSw); go_simp; try with_reducible rfl)
      (try simp only [Act.put, List.setIfInBounds_toArray, List.set_cons_zero, List.set_cons_succ])
      refine takeL (i := 10) (v := ?_) rfl (by kernel_rfl) (by kernel_rfl) (by kernel_rfl) (fun _ _ _ h => h) rfl (by assumption) ?_ ?_
      rotate_left
      · (intro wS hSw; (try dsimp only at hSw); go_simp; try with_reducible rfl)
      (try simp only [Act.put, List.setIfInBounds_toArray, List.set_cons_zero, List.set_cons_succ])
      refine takeL (i := 11) (v := ?_) rfl (by kernel_rfl) (by kernel_rfl) (by kernel_rfl) (fun _ _ _ h => h) rfl (by assumption) ?_ ?_
      rotate_left
      · (intro wS hSw; (try dsimp only at hSw); go_simp; try with_reducible rfl)
      (try simp only [Act.put, List.setIfInBounds_toArray, List.set_cons_zero, List.set_cons_succ])
      refine takeL (i := 12) (v := ?_) rfl (by kernel_rfl) (by kernel_rfl) (by kernel_rfl) (fun _ _ _ h => h) rfl (by assumption) ?_ ?_
      rotate_left
      · (intro wS hSw; (try dsimp only at hSw); go_simp; try with_reducible rfl)
      (try simp only [Act.put, List.setIfInBounds_toArray, List.set_cons_zero, List.set_cons_succ])
      refine takeL (i := 13) (v := ?_) rfl (by kernel_rfl) (by kernel_rfl) (by kernel_rfl) (fun _ _ _ h => h) rfl (by assumption) ?_ ?_
      rotate_left
      · (intro wS hSw; (try dsimp only at hSw); go_simp; try with_reducible rfl)
      (try simp only [Act.put, List.setIfInBounds_toArray, List.set_cons_zero, List.set_cons_succ])
      refine takeL (i := 14) (v := ?_) rfl (by kernel_rfl) (by kernel_rfl) (by kernel_rfl) (fun _ _ _ h => h) rfl (by assumption) ?_ ?_
      rotate_left
      · (intro wS hSw; (try dsimp only at hSw); go_simp; try with_reducible rfl)
      (try simp only [Act.put, List.setIfInBounds_toArray, List.set_cons_zero, List.set_cons_succ])
      refine stepL (i := 8) rfl (by kernel_rfl) (fun K hK => ?_)
      rw [if_pos (by rfl)]
      go_simp
      refine hK.out _ _ (S0 _ bA) (fun hHeld2 => ?_)
      clear hK K hHeld
      (try simp only [Act.put, List.setIfInBounds_toArray, List.set_cons_zero, List.set_cons_succ])
      refine stepL (i := 15) rfl (by kernel_rfl) (fun K hK => ?_)
      refine step_append_lies _ (by rfl) _ _ _ (by rfl) (w.heap.size + 3) 123 i1 _ 2 16 Tryz.underlying92 hI1 hy0 hy1 hy2 rfl (by omega) (.slice (some ⟨wo.heap.size, 0, none⟩) 0 0) 0 [] (by rfl) (ownsRow_of_block (cs := []) (heap_alloc_new wo _) rfl hsz (by unfold maxLen; omega)) ⟨b2, off2, none⟩ (cAt l k).l.length cb (vcells (cAt l k).l) (by rfl) (vcells_length _) (fun j u hu => by rw [add_at]; exact cell_stays bA (HC.out j u hu)) (vcells_one _) hs1.1 (by unfold maxLen; omega) (by omega) (by show _ ≤ (wo.alloc _).heap.size; simp; omega) (wo.heap.size + 1) (by show (wo.alloc _).heap.size = _; simp) ?_
      intro gg cap5 w5 hown5 hgrow5 hat5 hlt5
      have bb5 : Below wo.heap.size wo w5 := bA.grown hgrow5 (by show _ ≤ (wo.alloc _).heap.size; simp) (fun x hx => by cases hx; simp)
      have hgg : wo.heap.size ≤ gg := by
        rcases hat5 with e | e
        · cases e; exact Nat.le_refl _
        · omega
      refine hK.out _ _ (S0 _ bb5) (fun hHeld3 => ?_)
      clear hK K hHeld2
      (try simp only [Act.put, List.setIfInBounds_toArray, List.set_cons_zero, List.set_cons_succ])
      have bc := build_chain (cAt l k).t (cAt l k).r (.slice (some ⟨gg, 0, none⟩) (0 + (cAt l k).l.length) cap5) rfl
      refine takeL (i := 16) (v := ?_) rfl (by kernel_rfl) (by kernel_rfl) (by kernel_rfl) (fun _ _ _ h => h) rfl (by assumption) ?_ ?_
      rotate_left
      · (intro wS hSw; (try dsimp only at hSw); go_simp; try with_reducible rfl)
      (try simp only [Act.put, List.setIfInBounds_toArray, List.set_cons_zero, List.set_cons_succ])
      refine stepL (i := 17) rfl (by kernel_rfl) (fun K hK => ?_)
      rw [if_pos (by rfl)]
      go_simp
      have bb6 := bb5.trans ((below_alloc w5 (Obj.cells #[.int .i64 (cAt l k).t, .int .i64 (cAt l k).r, .slice (some ⟨gg, 0, none⟩) (cAt l k).l.length cap5] 94)).mono bb5.size)
      refine hK.out _ _ (S0 _ bb6) (fun hHeld4 => ?_)
      clear hK K hHeld3 bc
      (try simp only [Act.put, List.setIfInBounds_toArray, List.set_cons_zero, List.set_cons_succ])
      refine stepL (i := 18) rfl (by kernel_rfl) (fun K hK => ?_)
      have hl5 : w5.ownsRow (w.heap.size + 3) 123 2 (.slice (some ⟨gg, 0, none⟩) (cAt l k).l.length cap5) (cAt l k).l.length (vcells (cAt l k).l) := by simpa using hown5
      refine step_append_lies _ (by rfl) _ _ _ (by rfl) (w.heap.size + 3) 94 i0 _ 3 40 Tryz.underlying30 hI hz0 hz1 hz2 rfl (by omega) ov q.length (qcells q) (by rfl) ((owns_keep hO.row fun g hg hgl => bb5.block g hgl).alloc _) ⟨w5.heap.size, 0, none⟩ 1 1 [.int .i64 (cAt l k).t, .int .i64 (cAt l k).r, .slice (some ⟨gg, 0, none⟩) (cAt l k).l.length cap5] (by rfl) (by rfl) (World.news_of_block (heap_alloc_new w5 _)) (by simp [Value.oneCell']) (by omega) (by unfold maxLen; omega) (by omega) (by show _ ≤ (w5.alloc _).heap.size; simp; have := bb5.size; omega) (w5.heap.size + 1) (by show (w5.alloc _).heap.size = _; simp) ?_
      intro g6 cap6 w6 hown6 hgrow6 hat6 hlt6
      have hovl : ∀ g, ov.ownBlock = some g → w.heap.size + 3 ≤ g ∧ g < wo.heap.size := fun g hg => owns_lt hO.row hg
      have hz5 := bb5.size
      have kb : ∀ g, g < w5.heap.size + 1 → ov.ownBlock ≠ some g → w6.heap[g]? = (w5.alloc (Obj.cells #[.int .i64 (cAt l k).t, .int .i64 (cAt l k).r, .slice (some ⟨gg, 0, none⟩) (cAt l k).l.length cap5] 94)).heap[g]? := fun g hg hne => hgrow6.block g (by simpa using hg) (fun e => hne e.symm)
      have kb5 : ∀ g, g < w5.heap.size → ov.ownBlock ≠ some g → w6.heap[g]? = w5.heap[g]? := fun g hg hne => (kb g (by omega) hne).trans (Below.heap_alloc _ _ _ hg)
      have kb0 : ∀ g, g < wo.heap.size → ov.ownBlock ≠ some g → w6.heap[g]? = wo.heap[g]? := fun g hg hne => (kb5 g (by omega) hne).trans (bb5.block g hg)
      have hoth : ∀ {a : Addr} {u : Value}, wo.cell? a = some u → a.block < w.heap.size + 3 → w6.cell? a = some u := fun {a} {u} hca hab => by
        rw [World.cell?_of_block (kb0 a.block (cell_lt hca) (fun e => by have := (hovl _ e).1; omega))]; exact hca
      have hofz : ∀ {a : Addr} {u : Value}, wo.cell? a = some u → a.block < w.heap.size + 3 → w6.frozen? a = wo.frozen? a := fun {a} {u} hca hab => World.frozen?_of_block (kb0 a.block (cell_lt hca) (fun e => by have := (hovl _ e).1; omega))
      have hbl : b < w.heap.size + 3 := by omega
      have SS : w6.cell? ⟨w.heap.size, 0, none⟩ = some (.slice (some ⟨b, off, none⟩) l.length cap) ∧ w6.cell? ⟨w.heap.size + 1 + 1, 0, none⟩ = some ov ∧ w6.cell? ⟨b, off + k * 3, none⟩ = some (.int .i64 (cAt l k).t) ∧ w6.cell? ⟨b, off + k * 3 + 1, none⟩ = some (.int .i64 (cAt l k).r) ∧ w6.cell? ⟨b, off + k * 3 + 1 + 1, none⟩ = some (.slice (some ⟨b2, off2, none⟩) (cAt l k).l.length cb) := by
        obtain ⟨z0, z1, z2, z3, z4⟩ := S0 wo (Below.refl _ _)
        exact ⟨hoth z0 (by simp), hoth z1 (by simp), hoth z2 hbl, hoth z3 hbl, hoth z4 hbl⟩
      have y1 : w6.cell? ⟨w.heap.size + 1, 0, none⟩ = some (.slice none 0 0) := hoth p1 (by simp)
      have y1f : w6.frozen? ⟨w.heap.size + 1, 0, none⟩ = false := by rw [hofz p1 (by simp)]; exact q1
      have y2 : w6.cell? ⟨w.heap.size + 1 + 1, 0, none⟩ = some ov := SS.2.1
      have y2f : w6.frozen? ⟨w.heap.size + 1 + 1, 0, none⟩ = false := by rw [hofz p2 (by simp)]; exact q2
      have y0 := SS.1
      refine hK.out _ _ SS (fun hHeld5 => ?_)
      clear hK K hHeld4
      (try simp only [Act.put, List.setIfInBounds_toArray, List.set_cons_zero, List.set_cons_succ])
      refine takeL (i := 19) (v := ?_) rfl (by kernel_rfl) (by kernel_rfl) (by kernel_rfl) (fun _ _ _ h => h) rfl (by assumption) ?_ ?_
      rotate_left
      · (intro wS hSw; (try dsimp only at hSw); go_simp; try with_reducible rfl)
      (try simp only [Act.put, List.setIfInBounds_toArray, List.set_cons_zero, List.set_cons_succ])
      refine wpAnyH_done (by kernel_rfl) ?_ _
      refine lastL (n := 20) rfl rfl ?_
      go_simp
      have hO6 : OwnQ (w.heap.size + 3) w6 (.slice (some ⟨g6, 0, none⟩) (q.length + 1) cap6) (q ++ [(⟨(cAt l k).t, (cAt l k).r, (cAt l k).l⟩, .slice (some ⟨gg, 0, none⟩) (cAt l k).l.length cap5)]) := hO.snoc bb5 hl5 (fun g hg => by cases hg; exact hgg) hown6 kb5 (fun g hg => by
        cases hg
        rcases hat6 with e | e
        · exact .inl e
        · right; show w5.heap.size ≤ g6; omega)
      have hO7 := hO6.keep (w' := w6.setCell ⟨w.heap.size + 1 + 1, 0, none⟩ (.slice (some ⟨g6, 0, none⟩) (q.length + 1) cap6)) fun g hg hl => Below.heap_setCell _ _ _ _ (by have := (hO6.base hg).1; show g ≠ w.heap.size + 1 + 1; omega)
      have hB6 : Below w.heap.size w w6 := hb.trans ((bb6.mono hb.size).grown hgrow6 (by simp; omega) (fun g hg => by have := (hovl g hg).1; omega))
      have hZ6 : w.heap.size + 3 ≤ w6.heap.size := by have := hgrow6.size; simp at this; omega
      have hq6 : Hid (qchs (q ++ [((⟨(cAt l k).t, (cAt l k).r, (cAt l k).l⟩, .slice (some ⟨gg, 0, none⟩) (cAt l k).l.length cap5) : Qc)]) = l.take (k + 1)) := by
        show _ = _
        rw [qchs_snoc, hqc.out, take_snoc l hlt]
      clear hgrow6 hown6 hown5 hgrow5 S0 hHeld5 SS
      rw [hqk] at hO7
      go_wp2
      go_roundw
      case rel => exact ⟨k + 1, .slice (some ⟨g6, 0, none⟩) (k + 1) cap6, _, by omega, by go_num, by simp [hqk], hq6, hB6.setCell (by simp; omega) _, by simpa using hZ6, by simp [go_sem, y0], by simp [go_sem, y1], by simp [go_sem, y1f], by simp [go_sem, y2], by simp [go_sem, y2f], hO7⟩
      case measure => simp [intOf]; omega
    · have hkl : k = l.length := by omega
      subst hkl
      have hqq : qchs q = l := by have := hqc.out; rwa [List.take_length] at this
      obtain ⟨a', m', c', rfl⟩ := owns_slice hO.row
      clear hqc
      go_wp2
      refine bodyPost_ret (v := .agg #[.slice a' m' c']) (by simp [results, Tryz.results61, go_sem, p1]) rfl ⟨_, q, rfl, ?_, hqq, ?_⟩
      · exact hO.keep fun g hg hl => Below.heap_setCell _ _ _ _ (by have := (hO.base hg).1; show g ≠ w.heap.size + 1; omega)
      · exact hb.setCell (by simp) _

end Go.Proofs.YtmecbppblbmchaaGreatDoor
