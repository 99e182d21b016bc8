/- spec.Prune: the contract. -/
import Derived.Test.YtgohdlgnmlekdajSpecPrune
namespace Go.Proofs.Ytgohdlgnmlekdaj
open Go.ChangeShapes Go.WideShapes Go.ChangeAt Go.RowKit Go.Maps Go.Sort
set_option linter.unusedVariables false
set_option maxRecDepth 100000
attribute [local go_sem ↓] Go.wp_at_zero Go.wp_at_succ

theorem hS_in (wr wq : World) (iv : Value) (b3 off3 j : Nat) (x : Vr) {xs : List Value} {n : Nat} (hvo : wq.ownsRow (wr.heap.size + 1) 72 2 iv n xs) (t3 : wq.frozen? ⟨wr.heap.size, 2, none⟩ = false)
    (e0 : wq.cell? ⟨b3, off3 + j * 2, none⟩ = some (.int .i64 x.1)) (e1 : wq.cell? ⟨b3, off3 + j * 2 + 1, none⟩ = some (.int .i64 x.2)) (lb3 : b3 < wr.heap.size) (hzq : wr.heap.size < wq.heap.size) :
    ∀ y, wq.grownBy y iv.ownBlock → y.frozen? ⟨wr.heap.size, 2, none⟩ = false ∧ y.cell? ⟨b3, off3 + j * 2, none⟩ = some (.int .i64 x.1) ∧ y.cell? ⟨b3, off3 + j * 2 + 1, none⟩ = some (.int .i64 x.2) := by
  intro y hy
  have n1 : some wr.heap.size ≠ iv.ownBlock := fun e => by have := (hvo.lt _ e.symm).1; omega
  have n2 : some b3 ≠ iv.ownBlock := fun e => by have := (hvo.lt _ e.symm).1; omega
  exact ⟨(hy.frozen_far _ hzq n1).trans t3, (hy.cell_far _ (show b3 < _ by omega) n2).trans e0, (hy.cell_far _ (show b3 < _ by omega) n2).trans e1⟩
theorem hS_in1 (wr wq : World) (iv : Value) (b3 off3 j : Nat) (x : Vr) {xs : List Value} {n : Nat} (hvo : wq.ownsRow (wr.heap.size + 1) 72 2 iv n xs) (t3 : wq.frozen? ⟨wr.heap.size, 2, none⟩ = false)
    (e0 : wq.cell? ⟨b3, off3 + j * 2, none⟩ = some (.int .i64 x.1)) (e1 : wq.cell? ⟨b3, off3 + j * 2 + 1, none⟩ = some (.int .i64 x.2)) (lb3 : b3 < wr.heap.size) (hzq : wr.heap.size < wq.heap.size) :
    ∀ y u, wq.grownBy y iv.ownBlock → (y.setCell ⟨wr.heap.size, 2, none⟩ u).frozen? ⟨wr.heap.size, 2, none⟩ = false ∧ (y.setCell ⟨wr.heap.size, 2, none⟩ u).cell? ⟨b3, off3 + j * 2, none⟩ = some (.int .i64 x.1) ∧ (y.setCell ⟨wr.heap.size, 2, none⟩ u).cell? ⟨b3, off3 + j * 2 + 1, none⟩ = some (.int .i64 x.2) := by
  intro y u hy
  obtain ⟨s1, s2, s3⟩ := hS_in wr wq iv b3 off3 j x hvo t3 e0 e1 lb3 hzq y hy
  have e : (y.setCell ⟨wr.heap.size, 2, none⟩ u).heap[b3]? = y.heap[b3]? := Below.heap_setCell _ _ _ _ (show b3 ≠ wr.heap.size by omega)
  exact ⟨by rw [World.frozen?_setCell]; exact s1, cell_same e s2, cell_same e s3⟩

theorem inner_rel (wr wq w6 : World) (iv : Value) (gg cap5 : Nat) (o : Obj) (p : List Vr) (x : Vr) (tv rv : Value) (hbq : Below wr.heap.size wr wq) (t0 : wq.cell? ⟨wr.heap.size, 0, none⟩ = some tv) (t1 : wq.cell? ⟨wr.heap.size, 1, none⟩ = some rv) (t2 : wq.cell? ⟨wr.heap.size, 2, none⟩ = some iv) (t3 : wq.frozen? ⟨wr.heap.size, 2, none⟩ = false)
    (hvo : wq.ownsRow (wr.heap.size + 1) 72 2 iv p.length (vcells p)) (hown6 : w6.ownsRow (wr.heap.size + 1) 72 2 (.slice (some ⟨gg, 0, none⟩) (p.length + 1) cap5) (p.length + 1) (vcells p ++ [.int .i64 x.1, .int .i64 x.2])) (hgrow : (wq.alloc o).drew.grownBy w6 iv.ownBlock) :
    Below wr.heap.size wr (w6.setCell ⟨wr.heap.size, 2, none⟩ (.slice (some ⟨gg, 0, none⟩) (p.length + 1) cap5)) ∧ (w6.setCell ⟨wr.heap.size, 2, none⟩ (.slice (some ⟨gg, 0, none⟩) (p.length + 1) cap5)).cell? ⟨wr.heap.size, 0, none⟩ = some tv ∧ (w6.setCell ⟨wr.heap.size, 2, none⟩ (.slice (some ⟨gg, 0, none⟩) (p.length + 1) cap5)).cell? ⟨wr.heap.size, 1, none⟩ = some rv ∧
      (w6.setCell ⟨wr.heap.size, 2, none⟩ (.slice (some ⟨gg, 0, none⟩) (p.length + 1) cap5)).cell? ⟨wr.heap.size, 2, none⟩ = some (.slice (some ⟨gg, 0, none⟩) (p.length + 1) cap5) ∧ (w6.setCell ⟨wr.heap.size, 2, none⟩ (.slice (some ⟨gg, 0, none⟩) (p.length + 1) cap5)).frozen? ⟨wr.heap.size, 2, none⟩ = false ∧
      (w6.setCell ⟨wr.heap.size, 2, none⟩ (.slice (some ⟨gg, 0, none⟩) (p.length + 1) cap5)).ownsRow (wr.heap.size + 1) 72 2 (.slice (some ⟨gg, 0, none⟩) (p.length + 1) cap5) (p ++ [x]).length (vcells (p ++ [x])) := by
  have hA : wq.grownBy w6 iv.ownBlock := gb_trans (gb_below _ (below_alloc wq o).drew) hgrow
  have hzq : wr.heap.size < wq.heap.size := cell_lt t2
  have n1 : some wr.heap.size ≠ iv.ownBlock := fun e => by have := (hvo.lt _ e.symm).1; omega
  have s0 := (hA.cell_far ⟨wr.heap.size, 0, none⟩ hzq n1).trans t0
  have s1 := (hA.cell_far ⟨wr.heap.size, 1, none⟩ hzq n1).trans t1
  have s2 := (hA.cell_far ⟨wr.heap.size, 2, none⟩ hzq n1).trans t2
  have s3 := (hA.frozen_far ⟨wr.heap.size, 2, none⟩ hzq n1).trans t3
  refine ⟨⟨hA.os.trans hbq.os, hA.tape.trans hbq.tape, hA.output.trans hbq.output, ?_, fun j hj => ?_⟩, ?_, ?_, ?_, ?_, ?_⟩
  · rw [size_setCell]; exact Nat.le_trans hbq.size hA.size
  · rw [Below.heap_setCell _ _ _ _ (show j ≠ wr.heap.size by omega), hA.block j (by omega) (fun e => by have := (hvo.lt _ e.symm).1; omega), hbq.block j hj]
  · exact (World.cell?_setCell_other _ ⟨wr.heap.size, 2, none⟩ ⟨wr.heap.size, 0, none⟩ _ (by simp)).trans s0
  · exact (World.cell?_setCell_other _ ⟨wr.heap.size, 2, none⟩ ⟨wr.heap.size, 1, none⟩ _ (by simp)).trans s1
  · exact World.cell?_setCell_same' _ _ _ (by rw [s2]; rfl)
  · rw [World.frozen?_setCell]; exact s3
  · rw [vcells_snoc, List.length_append, List.length_singleton]
    obtain ⟨h1, h2⟩ := hown6
    refine ⟨h1, ?_⟩
    rcases h2 with ⟨h2, _⟩ | ⟨g', cap', cur, hv, hg, hh, r⟩
    · cases h2
    · exact .inr ⟨g', cap', cur, hv, hg, by rw [Below.heap_setCell _ _ _ _ (show g' ≠ wr.heap.size by omega)]; exact hh, r⟩

set_option maxHeartbeats 4000000 in
theorem specPrune_own (v : Value) (l : List Ch) (h : Int) (w : World) {lo hi : Nat} (hl : ChainsAt lo hi w v l) (hn : Small l) :
    Calls Try.prog 23 #[.agg #[v], .int .i64 h] w fun e w' => ∃ v' out, e = .returned (.agg #[v']) ∧ PAns l h out ∧ OwnS w.heap.size w' v' out ∧ Below w.heap.size w w' := by
  have hl2 := hl
  obtain ⟨a, cap, hv, hm, hc⟩ := hl2
  subst hv
  obtain ⟨iC, hIC, hC0, hC1, hC2⟩ := info_parts infoChain'
  obtain ⟨iV, hIV, hV0, hV1, hV2⟩ := info_parts infoVer
  have hbx : Below w.heap.size w (((w.alloc (Obj.cells #[Value.slice a l.length cap] 31)).alloc (Obj.cells #[Value.slice none 0 0] 31)).alloc (Obj.cells #[Value.slice none 0 0] 31)) := (((Below.refl _ _).alloc (Nat.le_refl _) _).alloc (by simp) _).alloc (by simp; omega) _
  go_enter Try.func23, Try.ntmps23
  go_wp2_with fail
  refine (specStoreOk_any _ l _ (hl.stays hbx)).mono ?_
  rintro e w1 ⟨⟨q, rfl, hq⟩, hb1⟩
  have b1 := hbx.trans (hb1.mono hbx.size)
  have p0 : w1.cell? ⟨w.heap.size, 0, none⟩ = some (.slice a l.length cap) := cell_stays hb1 (by simp [go_sem])
  have p1 : w1.cell? ⟨w.heap.size + 1, 0, none⟩ = some (.slice none 0 0) := cell_stays hb1 (by simp [go_sem])
  have q1 : w1.frozen? ⟨w.heap.size + 1, 0, none⟩ = false := by rw [hb1.frozen (by simp)]; simp [go_sem]
  have p2 : w1.cell? ⟨w.heap.size + 1 + 1, 0, none⟩ = some (.slice none 0 0) := cell_stays hb1 (by simp [go_sem])
  have q2 : w1.frozen? ⟨w.heap.size + 1 + 1, 0, none⟩ = false := by rw [hb1.frozen (by simp)]; simp [go_sem]
  have z1 : w.heap.size + 1 + 1 < w1.heap.size := cell_lt p2
  clear hb1 hbx
  by_cases hs : storeOk l
  · obtain rfl := hq.2 hs
    clear hq
    by_cases hh : hourB h = true
    · have h200 := hs.1
      go_wp2_with (first | (go_at_call 47; refine (l1hour_any _ _).mono ?_; rintro e w2 ⟨rfl, rfl⟩))
      go_loopw [6] (fun i wr => ∃ (k : Nat) (ov : Value) (Bs : Nat → Nat), k ≤ l.length ∧ i = .int .i64 k ∧ w2.grownBy wr (some (w.heap.size + 1 + 1)) ∧ wr.cell? ⟨w.heap.size + 1 + 1, 0, none⟩ = some ov ∧ wr.frozen? ⟨w.heap.size + 1 + 1, 0, none⟩ = false ∧ COwn w2.heap.size wr ov ((prune l h).take k) Bs) (fun i _ => l.length - (intOf i).toNat)
      case atStart => exact ⟨0, _, _, Nat.zero_le _, rfl, gb_below _ (Below.refl _ _), p2, q2, COwn.nil _ _⟩
      case round =>
        obtain ⟨k, ov, Bs, hk, rfl, hB, pv, qv, hco⟩ := hrel
        have bwr : Below w.heap.size w wr := b1.trans ⟨hB.os, hB.tape, hB.output, hB.size, fun j hj => hB.block j (by omega) (by intro e; injection e with e; omega)⟩
        have r0 : wr.cell? ⟨w.heap.size, 0, none⟩ = some (.slice a l.length cap) := (hB.cell_far _ (by show w.heap.size < _; omega) (by intro e; injection e with e; simp at e; omega)).trans p0
        have hsB := hB.size
        by_cases hlt : k < l.length
        · obtain ⟨b, off, rfl, hlo, hhi, hcc⟩ := hc (by omega)
          obtain ⟨c0, c1, a2, cap2, c2, c3⟩ := hcc k hlt
          replace c0 := cell_stays bwr c0
          replace c1 := cell_stays bwr c1
          replace c2 := cell_stays bwr c2
          replace c3 := c3.stays bwr
          have vk := (hs.2 k hlt).2.2
          clear hcc hc
          obtain ⟨L, hL⟩ : ∃ L, (cAt l k).l = L := ⟨_, rfl⟩
          rw [hL] at c2 c3 vk
          obtain ⟨b3, off3, rfl, hlo3, hhi3, hc3⟩ : ∃ b off, a2 = some ⟨b, off, none⟩ ∧ lo ≤ b ∧ b < hi ∧ ∀ i, i < L.length → wr.cell? ⟨b, off + i * 2, none⟩ = some (.int .i64 (vAt L i).1) ∧ wr.cell? ⟨b, off + i * 2 + 1, none⟩ = some (.int .i64 (vAt L i).2) := by
            obtain ⟨a3, cap3, e3, hm3, hc3⟩ := c3
            cases e3
            exact hc3 (by have := vk.1; omega)
          clear c3
          have rA := fun o => cell_stays (below_alloc wr o) r0
          have cA := fun o => cell_stays (below_alloc wr o) c2
          go_wp2_with fail
          generalize wr = wo at *
          go_loopw [9] (fun i wr => ∃ (j : Nat) (iv : Value), j ≤ L.length ∧ i = .int .i64 j ∧ Below wo.heap.size wo wr ∧ wr.cell? ⟨wo.heap.size, 0, none⟩ = some (.int .i64 (cAt l k).t) ∧ wr.cell? ⟨wo.heap.size, 1, none⟩ = some (.int .i64 (cAt l k).r) ∧ wr.cell? ⟨wo.heap.size, 2, none⟩ = some iv ∧ wr.frozen? ⟨wo.heap.size, 2, none⟩ = false ∧ wr.ownsRow (wo.heap.size + 1) 72 2 iv (prT L h j).length (vcells (prT L h j))) (fun i _ => L.length - (intOf i).toNat)
          case atStart => exact ⟨0, .slice none 0 0, Nat.zero_le _, rfl, below_alloc _ _, by simp [go_sem], by simp [go_sem], by simp [go_sem], by simp [go_sem], by simpa [prT, vcells] using World.ownsRow_nil _ _ _ _⟩
          case round =>
            obtain ⟨j, iv, hj, rfl, hbq, t0, t1, t2, t3, hvo⟩ := hrel
            have hul := (un_is L h).1
            have hl2 := vk.2.1
            have hpl : (prT L h j).length ≤ 200 := by rw [prT_length L h hj]; omega
            have hzq : wo.heap.size < wr.heap.size := cell_lt t2
            by_cases hjl : j < L.length
            · have e0 := cell_stays hbq (hc3 j hjl).1
              have e1 := cell_stays hbq (hc3 j hjl).2
              have lb3 := cell_lt (hc3 j hjl).1
              have HS0 : Hid (∀ x, wr.grownBy x iv.ownBlock → _) := hS_in wo wr iv b3 off3 j (vAt L j) hvo t3 e0 e1 lb3 hzq
              have HS1 : Hid (∀ x u, wr.grownBy x iv.ownBlock → _) := hS_in1 wo wr iv b3 off3 j (vAt L j) hvo t3 e0 e1 lb3 hzq
              have n1 : some wo.heap.size ≠ iv.ownBlock := fun e => by have := (hvo.lt _ e.symm).1; omega
              have HQ : Hid (∀ x, wr.grownBy x iv.ownBlock → x.cell? ⟨wo.heap.size, 2, none⟩ = some iv) := fun x hx => (hx.cell_far ⟨wo.heap.size, 2, none⟩ hzq n1).trans t2
              have tA := fun o => cell_stays (below_alloc wr o) t2
              by_cases hlast : j + 1 = L.length
              · have hd := (keep_iff vk h hjl).2 (.inl hlast)
                have hlast' : (j : Int) + 1 = (L.length : Int) := by omega
                clear hc3
                go_wp2_with fail
                go_region_law ((refine step_append_lies _ (by rfl) _ _ _ (by rfl) (wo.heap.size + 1) 72 iV _ 2 16 Try.underlying74 hIV hV0 hV1 hV2 rfl (by omega) iv (prT L h j).length (vcells (prT L h j)) (by rfl) ((hvo.alloc _).drew) ⟨wr.heap.size, 0, none⟩ 1 1 [.int .i64 (vAt L j).1, .int .i64 (vAt L j).2] (by rfl) (by rfl) (World.news_of_block (heap_alloc_new wr _)) (by simp [Value.oneCell']) (by omega) (by unfold maxLen; omega) (by omega) (by simp; omega) (wr.heap.size + 1) (by simp) ?_; intro gg cap5 w6 hown6 hgrow hat6 hlt6; have p6 := HQ.out _ (gb_trans (gb_below _ (below_alloc _ _).drew) hgrow); have f6 := (HS0.out _ (gb_trans (gb_below _ (below_alloc _ _).drew) hgrow)).1))
                all_goals (
                  go_wp2
                  go_roundw
                  case rel =>
                    obtain ⟨r1, r2, r3, r4, r5, r6⟩ := inner_rel wo wr w6 iv gg cap5 _ (prT L h j) (vAt L j) _ _ hbq t0 t1 t2 t3 hvo hown6 hgrow
                    exact ⟨j + 1, _, by omega, by go_num, r1, r2, r3, r4, r5, by rw [prT_yes L h hjl hd]; simpa using r6⟩
                  case measure => simp [intOf]; omega)
              · have e2 := cell_stays hbq (hc3 (j + 1) (by omega)).1
                have hlast' : ¬ (j : Int) + 1 = (L.length : Int) := by omega
                clear hc3
                by_cases hg : h < (vAt L (j + 1)).1
                · have hd := (keep_iff vk h hjl).2 (.inr hg)
                  go_wp2_with fail
                  go_region_law ((refine step_append_lies _ (by rfl) _ _ _ (by rfl) (wo.heap.size + 1) 72 iV _ 2 16 Try.underlying74 hIV hV0 hV1 hV2 rfl (by omega) iv (prT L h j).length (vcells (prT L h j)) (by rfl) ((hvo.alloc _).drew) ⟨wr.heap.size, 0, none⟩ 1 1 [.int .i64 (vAt L j).1, .int .i64 (vAt L j).2] (by rfl) (by rfl) (World.news_of_block (heap_alloc_new wr _)) (by simp [Value.oneCell']) (by omega) (by unfold maxLen; omega) (by omega) (by simp; omega) (wr.heap.size + 1) (by simp) ?_; intro gg cap5 w6 hown6 hgrow hat6 hlt6; have p6 := HQ.out _ (gb_trans (gb_below _ (below_alloc _ _).drew) hgrow); have f6 := (HS0.out _ (gb_trans (gb_below _ (below_alloc _ _).drew) hgrow)).1))
                  all_goals (
                    go_wp2
                    go_roundw
                    case rel =>
                      obtain ⟨r1, r2, r3, r4, r5, r6⟩ := inner_rel wo wr w6 iv gg cap5 _ (prT L h j) (vAt L j) _ _ hbq t0 t1 t2 t3 hvo hown6 hgrow
                      exact ⟨j + 1, _, by omega, by go_num, r1, r2, r3, r4, r5, by rw [prT_yes L h hjl hd]; simpa using r6⟩
                    case measure => simp [intOf]; omega)
                · have hd : j < un L h - 1 := Nat.lt_of_not_le fun hle => hg (((keep_iff vk h hjl).1 hle).resolve_left hlast)
                  go_wp2
                  go_roundw
                  case rel => exact ⟨j + 1, iv, by omega, by go_num, hbq, t0, t1, t2, t3, by rw [prT_no L h hjl hd]; exact hvo⟩
                  case measure => simp [intOf]; omega
            · obtain rfl : j = L.length := by omega
              rw [prT_all] at hvo hpl
              have hpos : 0 < (prL L h).length := by rw [prL_length]; have := vk.1; omega
              obtain ⟨g7, cap7, rfl, hg7, hg7'⟩ := hvo.form hpos
              have u0 := cell_stays hbq pv
              have u1 : wr.frozen? ⟨w.heap.size + 1 + 1, 0, none⟩ = false := by rw [hbq.frozen (cell_lt pv)]; exact qv
              obtain ⟨xs, hxo, hx2, hx3, hx4⟩ := hco
              have hkk : ((prune l h).take k).length = k := by rw [List.length_take, prune_length]; omega
              have hxo' := ownsRow_low hxo hbq
              rw [hkk] at hxo'
              obtain ⟨hOV, hcap7⟩ := ownV_of_owns hvo
              have HX : Hid (∀ gg cap5 (w6 : World) o u, w6.ownsRow w2.heap.size 95 3 (.slice (some ⟨gg, 0, none⟩) (k + 1) cap5) (k + 1) (xs ++ [.int .i64 (cAt l k).t, .int .i64 (cAt l k).r, .slice (some ⟨g7, 0, none⟩) (prL L h).length cap7]) → (wr.alloc o).grownBy w6 ov.ownBlock → (ov.ownBlock = some gg ∨ gg = wr.heap.size + 1) →
                  COwn w2.heap.size (w6.setCell ⟨w.heap.size + 1 + 1, 0, none⟩ u) (.slice (some ⟨gg, 0, none⟩) (k + 1) cap5) ((prune l h).take (k + 1)) (upd Bs k g7)) := fun gg cap5 w6 o u h6 hgr hat => by
                have := COwn.snoc (base := w2.heap.size) (wr := wr) (w6 := w6) (ov := ov) (out := (prune l h).take k) (Bs := Bs) (xs := xs) ⟨(cAt l k).t, (cAt l k).r, prL L h⟩ g7 cap7 gg cap5 (w.heap.size + 1 + 1) o u (by rw [hkk]; exact hxo') hx2
                  (fun j hj => by obtain ⟨a1, a2, a3⟩ := hx3 j hj; exact ⟨a1.of_block (hbq.block _ a1.lt), a2, a3⟩) hx4 hOV (by omega) (fun j hj => by have := (hx3 j hj).1.lt; omega) (fun e => by have := (hxo.lt _ e.symm).2; omega) hcap7 (by rw [hkk]; exact h6) hgr hat (by omega)
                rw [hkk] at this
                rw [prune_take l h hlt, hL]
                exact this
              have hob : ∀ j, ov.ownBlock = some j → w2.heap.size ≤ j ∧ j < wo.heap.size := fun j hj => hxo.lt j hj
              have n2 : some (w.heap.size + 1 + 1) ≠ ov.ownBlock := fun e => by have := (hob _ e.symm).1; omega
              have HU : Hid (∀ o (x : World), (wr.alloc o).grownBy x ov.ownBlock → x.cell? ⟨w.heap.size + 1 + 1, 0, none⟩ = some ov ∧ x.frozen? ⟨w.heap.size + 1 + 1, 0, none⟩ = false ∧ ∀ u, w2.grownBy (x.setCell ⟨w.heap.size + 1 + 1, 0, none⟩ u) (some (w.heap.size + 1 + 1))) := fun o x hx => by
                have hA : wr.grownBy x ov.ownBlock := gb_trans (gb_below _ (below_alloc wr o)) hx
                refine ⟨(hA.cell_far _ (cell_lt u0) n2).trans u0, (hA.frozen_far _ (cell_lt u0) n2).trans u1, fun u => ⟨hA.os.trans (hbq.os.trans hB.os), hA.tape.trans (hbq.tape.trans hB.tape), hA.output.trans (hbq.output.trans hB.output), ?_, fun j hj hne => ?_⟩⟩
                · rw [size_setCell]; exact Nat.le_trans hB.size (Nat.le_trans hbq.size hA.size)
                · rw [Below.heap_setCell _ _ _ _ (show j ≠ w.heap.size + 1 + 1 from fun e => hne (by rw [e])), hA.block j (by omega) (fun e => by have := (hob j e.symm).1; omega), hbq.block j (by omega), hB.block j hj hne]
              have hsz := hbq.size
              clear hc3 hkk hx2 hx3 hx4 hxo hob
              go_wp2_with (at_builtin; refine wpList_append_lies _ rfl _ _ 29 rfl w2.heap.size 95 iC _ 3 40 Try.underlying29 hIC hC0 hC1 hC2 rfl (by decide) _ k xs rfl (hxo'.alloc _) ⟨wr.heap.size, 0, none⟩ 1 1 [.int .i64 (cAt l k).t, .int .i64 (cAt l k).r, .slice (some ⟨g7, 0, none⟩) (prL L h).length cap7] rfl rfl (World.news_of_block (heap_alloc_new wr _)) (by simp [Value.oneCell']) (by omega) (by unfold maxLen; omega) (by omega) (by simp; omega) (wr.heap.size + 1) (by simp) ?_; intro gg cap5 w6 hown6 hgrow hat6 hlt6; obtain ⟨p6, f6, _⟩ := HU.out _ _ hgrow)
              go_roundw
              case rel => exact ⟨k + 1, _, _, by omega, by go_num, (HU.out _ _ hgrow).2.2 _, World.cell?_setCell_same' _ _ _ (by rw [p6]; rfl), by rw [World.frozen?_setCell]; exact f6, HX.out _ _ _ _ _ hown6 hgrow hat6⟩
              case measure => simp [intOf]; omega
        · obtain rfl : k = l.length := by omega
          have e7 : (prune l h).take l.length = prune l h := by rw [← prune_length l h]; exact List.take_length
          rw [e7] at hco
          have hO := hco.ownS (lo := w2.heap.size) (Nat.le_refl _)
          obtain ⟨a6, n6, c6, rfl⟩ := hO.form
          have d0 : wr.cell? ⟨w.heap.size + 1, 0, none⟩ = some (.slice none 0 0) := (hB.cell_far _ (show w.heap.size + 1 < _ by omega) (by intro e; injection e with e; simp at e)).trans p1
          have d1 : wr.frozen? ⟨w.heap.size + 1, 0, none⟩ = false := (hB.frozen_far _ (show w.heap.size + 1 < _ by omega) (by intro e; injection e with e; simp at e)).trans q1
          clear hc hco
          go_wp2
          refine bodyPost_ret (v := .agg #[.slice a6 n6 c6]) ?_ rfl ⟨_, prune l h, rfl, .inr ⟨⟨hs, hh⟩, rfl⟩, (hO.set (by omega) _).wide (by omega), bwr.setCell (by simp) _⟩
          simp [results, Try.results23, go_sem, d0]
    · have hh' : hourB h = false := by simpa using hh
      clear hc
      go_wp2_with (first | (go_at_call 47; refine (l1hour_any _ _).mono ?_; rintro e w2 ⟨rfl, rfl⟩))
      refine bodyPost_ret (v := .agg #[.slice none 0 0]) ?_ rfl ⟨_, [], rfl, .inl ⟨fun h => hh h.2, rfl⟩, .inl ⟨rfl, rfl⟩, ?_⟩
      · simp [results, Try.results23, go_sem, p1]
      · exact b1.setCell (by simp) _
  · obtain rfl := says_false hq hs
    clear hq hc
    go_wp2
    refine bodyPost_ret (v := .agg #[.slice none 0 0]) ?_ rfl ⟨_, [], rfl, .inl ⟨fun h => hs h.1, rfl⟩, .inl ⟨rfl, rfl⟩, ?_⟩
    · simp [results, Try.results23, go_sem, p1]
    · exact b1.setCell (by simp) _

end Go.Proofs.Ytgohdlgnmlekdaj
