import Derived.Test.YtmecbppblbmchaaGreatDoorPrune0
/- impl.Prune. -/
namespace Go.Proofs.YtmecbppblbmchaaGreatDoor
open Go.ChangeShapes Go.WideShapes Go.ChangeAt Go.RowKit Go.Maps Go.Sort
set_option linter.unusedVariables false
set_option maxRecDepth 100000
attribute [local go_sem ↓] Go.wp_at_zero Go.wp_at_succ

def PAns (l : List Ch) (h : Int) (out : List Ch) : Prop := (¬ (storeOk l ∧ hourB h = true) ∧ out = []) ∨ ((storeOk l ∧ hourB h = true) ∧ out = prune l h)

theorem VersAt.cut {lo hi : Nat} {w : World} {b off c c' : Nat} {l : List Vr} {h : Int} (hv : VersAt lo hi w (.slice (some ⟨b, off, none⟩) l.length c) l) (hl : 0 < l.length) : VersAt lo hi w (.slice (some ⟨b, off + (un l h - 1) * 2, none⟩) (l.length - (un l h - 1)) c') (prL l h) := by
  obtain ⟨a, cap, e, hm, hc⟩ := hv
  cases e
  obtain ⟨b', off', e, h1, h2, h3⟩ := hc hl
  cases e
  refine ⟨_, _, by rw [prL_length], by rw [prL_length]; omega, fun _ => ⟨b, _, rfl, h1, h2, fun i hi => ?_⟩⟩
  rw [prL_length] at hi
  rw [prL_at]
  obtain ⟨g1, g2⟩ := h3 (un l h - 1 + i) (by omega)
  rw [show off + (un l h - 1 + i) * 2 = off + (un l h - 1) * 2 + i * 2 by omega] at g1 g2
  exact ⟨g1, g2⟩

theorem OwnS.form {lo : Nat} {w : World} {v : Value} {l : List Ch} (h : OwnS lo w v l) : ∃ a n c, v = .slice a n c := by
  rcases h with ⟨h, _⟩ | ⟨b, Bs, cap, h, _⟩
  · exact ⟨_, _, _, h⟩
  · exact ⟨_, _, _, h⟩
theorem OwnS.set {lo : Nat} {w : World} {v : Value} {l : List Ch} (h : OwnS lo w v l) {B : Nat} (hB : B < lo) (u : Value) : OwnS lo (w.setCell ⟨B, 0, none⟩ u) v l := by
  rcases h with h | ⟨b, Bs, cap, h, ho⟩
  · exact .inl h
  · refine .inr ⟨b, Bs, cap, h, ?_⟩
    rw [size_setCell]
    exact ho.keep fun k hk _ _ => Below.heap_setCell _ _ _ _ (show k ≠ B by omega)
theorem OwnS.wide {lo lo' : Nat} {w : World} {v : Value} {l : List Ch} (h : OwnS lo w v l) (hl : lo' ≤ lo) : OwnS lo' w v l := by
  rcases h with h | ⟨b, Bs, cap, h, ho⟩
  · exact .inl h
  · exact .inr ⟨b, Bs, cap, h, ho.wide hl (Nat.le_refl _)⟩

theorem OwnC.cell3 {lo hi : Nat} {w : World} {b : Nat} {Bs : Nat → Nat} {l : List Ch} (h : OwnC lo hi w b Bs l) (hn : Small l) {i : Nat} (hi' : i < l.length) : w.cell? ⟨b, i * 3, none⟩ = some (.int .i64 (cAt l i).t) ∧ w.cell? ⟨b, i * 3 + 1, none⟩ = some (.int .i64 (cAt l i).r) ∧
    ∃ c, (cAt l i).l.length ≤ c ∧ w.cell? ⟨b, i * 3 + 1 + 1, none⟩ = some (.slice (some ⟨Bs i, 0, none⟩) (cAt l i).l.length c) ∧ VersAt lo hi w (.slice (some ⟨Bs i, 0, none⟩) (cAt l i).l.length c) (cAt l i).l := by
  obtain ⟨c, h1, h2⟩ := h.caps hi'
  obtain ⟨_, _, f, h3, h4, _⟩ := h
  obtain ⟨g1, g2, _, g4, g5, g6, g7⟩ := h4 i hi'
  have e1 := h3.cell (show i * 3 < l.length * 3 by omega)
  have e2 := h3.cell (show i * 3 + 1 < l.length * 3 by omega)
  rw [g1] at e1
  rw [g2] at e2
  exact ⟨e1, e2, c, h1, h2, g4.vers g5 g6 (by have := hn.2 i hi'; unfold maxLen; omega)⟩

set_option maxHeartbeats 4000000 in
theorem implPrune_own (bb c : Nat) (Bs : Nat → Nat) (l : List Ch) (h : Int) (w : World) {lo hi : Nat} (ho : OwnC lo hi w bb Bs l) (hw : WfCh l) (hn : Small l) :
    Calls Tryz.prog 95 #[.agg #[.slice (some ⟨bb, 0, none⟩) l.length c], .int .i64 h] w fun e w' => ∃ v' out, e = .returned (.agg #[v']) ∧ PAns l h out ∧ OwnS w.heap.size w' v' out ∧ Below w.heap.size w w' := by
  have hl : ChainsAt lo hi w (.slice (some ⟨bb, 0, none⟩) l.length c) l := ho.chains hn
  obtain ⟨a, ha⟩ : ∃ a, a = some (⟨bb, 0, none⟩ : Addr) := ⟨_, rfl⟩
  obtain ⟨cap, hcp⟩ : ∃ cap, cap = c := ⟨_, rfl⟩
  rw [← ha, ← hcp] at hl ⊢
  have HA : Hid (a = some (⟨bb, 0, none⟩ : Addr)) := ha
  have hOC : ∀ i, i < l.length → _ := fun i hi => ho.cell3 hn hi
  have HC : Hid (∀ i, i < l.length → _) := hOC
  clear ha hcp hOC ho
  have hbx : Below w.heap.size w ((w.alloc (Obj.cells #[Value.slice a l.length cap] 32)).alloc (Obj.cells #[Value.slice none 0 0] 32)) := ((Below.refl _ _).alloc (Nat.le_refl _) _).alloc (by simp) _
  go_enter Tryz.func95, Tryz.ntmps95
  go_wp2_with fail
  refine (implStoreOk_any _ l _ (hl.stays hbx)).mono ?_
  rintro e w1 ⟨⟨q, rfl, hq⟩, hb1⟩
  have b1 := hbx.trans (hb1.mono hbx.size)
  have p0 : w1.cell? ⟨w.heap.size, 0, none⟩ = some (.slice a l.length cap) := cell_stays hb1 (by simp [go_sem])
  have p1 : w1.cell? ⟨w.heap.size + 1, 0, none⟩ = some (.slice none 0 0) := cell_stays hb1 (by simp [go_sem])
  have q1 : w1.frozen? ⟨w.heap.size + 1, 0, none⟩ = false := by rw [hb1.frozen (by simp)]; simp [go_sem]
  have z1 : w.heap.size + 1 < w1.heap.size := cell_lt p1
  clear hb1 hbx
  by_cases hs : storeOk l
  · obtain rfl := hq.2 hs
    clear hq
    by_cases hh : hourB h = true
    · have h200 := hs.1
      go_wp2_with (first | (go_at_call 106; refine (isHour_any _ _).mono ?_; rintro e w2 ⟨rfl, rfl⟩) | (go_at_call 120; refine (chainsByKey_any _ l _ (hl.stays b1) hw hn.1).mono ?_; rintro e w3 ⟨bm, D, f, rfl, hown, hat, hby, hbm, hb3⟩; have p3 := cell_stays hb3 p0))
      go_loopw [23] (fun i wr => ∃ (k : Nat) (D : DataW Value) (f : Int → Int → Option Value), k ≤ l.length ∧ i = .int .i64 k ∧ Below w2.heap.size w2 wr ∧ wr.ownsMap Tryz.prog 46 KV bm (l.length + k) D ∧ At D f ∧ PMap lo hi w2 l h k f) (fun i _ => l.length - (intOf i).toNat)
      case atStart => exact ⟨0, D, f, Nat.zero_le _, rfl, hb3, hown, hat, PMap.start h hby⟩
      case round =>
        obtain ⟨k, D', f', hk, rfl, hb, hown', hat', hpm⟩ := hrel
        by_cases hlt : k < l.length
        · obtain ⟨c0, c1, cap2, hcap2, c2, c3⟩ := HC.out k hlt
          obtain rfl := HA.out
          have bw := b1.trans (hb.mono b1.size)
          replace c0 := cell_stays bw c0
          replace c1 := cell_stays bw c1
          replace c2 := cell_stays bw c2
          have wk := hw k hlt
          have vk := (hs.2 k hlt).2.2
          have c4 := c3.stays b1
          generalize Bs k = b5 at *
          clear HC
          have bA := below_alloc wr (Obj.cells #[Value.int IntKind.i64 (cAt l k).t, Value.int IntKind.i64 (cAt l k).r, Value.slice (some ⟨b5, 0, none⟩) (cAt l k).l.length cap2] 94)
          have c5 := (c4.stays hb).stays bA
          go_wp2_with (go_at_call 133; refine (versUntil_any _ _ _ _ c5).mono ?_; rintro e w5 ⟨n5, rfl, hu5, rfl⟩; obtain rfl := hu5.one (un_is _ _))
          have hu := (un_is (cAt l k).l h).1
          have hl1 := vk.1
          have hl2 := vk.2.1
          have em : max (wrap64 ((un (cAt l k).l h : Int) - 1)) 0 = ((un (cAt l k).l h - 1 : Nat) : Int) := by
            unfold wrap64; omega
          rw [em]
          have hcut := c4.cut (h := h) (c' := cap2 - (un (cAt l k).l h - 1)) (by omega)
          obtain ⟨m, hmu⟩ : ∃ m, un (cAt l k).l h - 1 = m := ⟨_, rfl⟩
          rw [hmu] at hcut ⊢
          have i0 : (0 : Int) ≤ (m : Int) := by omega
          have i1 : (m : Int) ≤ ((cAt l k).l.length : Int) := by omega
          have hne : ¬ (cap2 = m) := by omega
          have hbl := hown'.lt
          obtain ⟨w9, hrun9, hown9, hg9⟩ := ((hown'.alloc (Obj.cells #[Value.int IntKind.i64 (cAt l k).t, Value.int IntKind.i64 (cAt l k).r, Value.slice (some ⟨b5, 0, none⟩) (cAt l k).l.length cap2] 94)).drew).update mlaw Tryz.underlying169 (by unfold maxLen; omega) (key_is wk.1 wk.2) (val := .slice (some ⟨b5, 0 + m * 2, none⟩) ((cAt l k).l.length - m) (cap2 - m)) rfl
          rw [Nat.zero_add] at hrun9
          have hS0 : ∀ x, (wr.alloc (Obj.cells #[Value.int IntKind.i64 (cAt l k).t, Value.int IntKind.i64 (cAt l k).r, Value.slice (some ⟨b5, 0, none⟩) (cAt l k).l.length cap2] 94)).grownBy x (some bm) → x.cell? ⟨wr.heap.size, 0, none⟩ = some (.int .i64 (cAt l k).t) ∧ x.cell? ⟨wr.heap.size, 1, none⟩ = some (.int .i64 (cAt l k).r) ∧ x.cell? ⟨wr.heap.size, 2, none⟩ = some (.slice (some ⟨b5, 0, none⟩) (cAt l k).l.length cap2) := fun x hx => by
            have n1 : some wr.heap.size ≠ some bm := by intro e; injection e with e; omega
            refine ⟨?_, ?_, ?_⟩ <;> (rw [hx.cell_far _ (by simp) n1]; simp [go_sem])
          have HS : Hid (∀ x, _ → _) := hS0
          have HP : Hid (PMap lo hi w2 l h (k + 1) _) := hpm.step hlt hcut
          have HU : Hid (un (cAt l k).l h - 1 = m) := hmu
          clear hS0 hmu em hu hown' hpm c5 c4 hcut
          go_region_held3 (fun x => x.cell? ⟨wr.heap.size, 0, none⟩ = some (.int .i64 (cAt l k).t) ∧ x.cell? ⟨wr.heap.size, 1, none⟩ = some (.int .i64 (cAt l k).r) ∧ x.cell? ⟨wr.heap.size, 2, none⟩ = some (.slice (some ⟨b5, 0, none⟩) (cAt l k).l.length cap2))
            (first | exact HS.out _ (gb_below _ (Below.refl _ _).drew) | exact HS.out _ (gb_trans (gb_below _ (Below.refl _ _).drew) hg9))
            (fail)
          have hsz := hb.size
          go_wp2
          go_roundw
          case rel => exact ⟨k + 1, _, _, by omega, by go_num, ((hb.alloc hb.size _).drew).grown hg9 (by simp; omega) (fun j hj => by cases hj; omega), hown9, hat'.put wk.1 wk.2 _, HP.out⟩
          case measure => simp [intOf]; omega
        · obtain rfl : k = l.length := by omega
          have hv : ∀ t r, wf t → wf r → ∀ v, f' t r = some v → VersAt lo hi wr v (prL (listAt l t r) h) ∧ (prL (listAt l t r) h).length ≤ 1048576 := fun t r _ _ v hfv => by
            rcases hpm t r with ⟨h1, _⟩ | ⟨i, h1, h2, v', h4, h5⟩
            · rw [h1] at hfv; cases hfv
            · rw [h4] at hfv
              cases hfv
              rw [if_pos h1] at h5
              rw [listAt_is hs h1 h2]
              exact ⟨h5.stays hb, by rw [prL_length]; have := hn.2 i h1; omega⟩
          have d0 := cell_stays hb p1
          have d1 : wr.frozen? ⟨w.heap.size + 1, 0, none⟩ = false := by rw [hb.frozen z1]; exact q1
          have bw := b1.trans (hb.mono b1.size)
          have HV : Hid (∀ t r, wf t → wf r → ∀ v, f' t r = some v → VersAt lo hi wr v (prL (listAt l t r) h) ∧ (prL (listAt l t r) h).length ≤ 1048576) := hv
          clear hv HC
          go_wp2_with (go_at_call 130; refine (storeOf_own bm _ D' f' (fun t r => prL (listAt l t r) h) _ hown' hat' HV.out (by have := hown'.size_le; omega)).mono ?_; rintro e w6 ⟨v6, ks, rfl, hK, hP, hO6, hb6⟩; have d2 := cell_stays hb6 d0; have d3 : w6.frozen? ⟨w.heap.size + 1, 0, none⟩ = false := (by rw [hb6.frozen (cell_lt d0)]; exact d1); obtain ⟨a6, n6, c6, rfl⟩ := hO6.form)
          have e6 := hpm.done hs hw hK hP
          have hsz := hb.size
          refine bodyPost_ret (v := .agg #[.slice a6 n6 c6]) ?_ rfl ⟨_, prune l h, rfl, .inr ⟨⟨hs, hh⟩, rfl⟩, ?_, ?_⟩
          · simp [results, Tryz.results95, go_sem, d2]
          · rw [← e6]
            exact (hO6.set (by omega) _).wide (by omega)
          · exact (bw.trans (hb6.mono bw.size)).setCell (by simp) _
    · have hh' : hourB h = false := by simpa using hh
      go_wp2_with (first | (go_at_call 106; refine (isHour_any _ _).mono ?_; rintro e w2 ⟨rfl, rfl⟩))
      refine bodyPost_ret (v := .agg #[.slice none 0 0]) ?_ rfl ⟨_, [], rfl, .inl ⟨fun h => hh h.2, rfl⟩, .inl ⟨rfl, rfl⟩, ?_⟩
      · simp [results, Tryz.results95, go_sem, p1]
      · exact b1.setCell (by simp) _
  · obtain rfl := says_false hq hs
    clear hq
    go_wp2
    refine bodyPost_ret (v := .agg #[.slice none 0 0]) ?_ rfl ⟨_, [], rfl, .inl ⟨fun h => hs h.1, rfl⟩, .inl ⟨rfl, rfl⟩, ?_⟩
    · simp [results, Tryz.results95, go_sem, p1]
    · exact b1.setCell (by simp) _

end Go.Proofs.YtmecbppblbmchaaGreatDoor
