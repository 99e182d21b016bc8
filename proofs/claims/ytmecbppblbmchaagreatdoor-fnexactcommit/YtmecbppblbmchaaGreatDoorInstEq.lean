import Derived.Test.YtmecbppblbmchaaGreatDoorSpecInst0
/- spec.Install, walked. -/
namespace Go.Proofs.YtmecbppblbmchaaGreatDoor
open Go.ChangeShapes Go.WideShapes Go.ChangeAt Go.RowKit Go.Maps Go.Sort
set_option linter.unusedVariables false
set_option maxRecDepth 100000
attribute [local go_sem ↓] Go.wp_at_zero Go.wp_at_succ

theorem owns_low {w : World} {base base' : Nat} {e : TypeId} {size : Nat} {v : Value} {n : Nat} {xs : List Value} (h : w.ownsRow base e size v n xs) (hb : base' ≤ base) : w.ownsRow base' e size v n xs := by
  obtain ⟨h1, h2⟩ := h
  refine ⟨h1, ?_⟩
  rcases h2 with h2 | ⟨g, cap, cur, e1, h4, h5⟩
  · exact .inl h2
  · exact .inr ⟨g, cap, cur, e1, by omega, h5⟩
theorem OwnQ.low {base base' : Nat} {w : World} {ov : Value} {q : List Qc} (h : OwnQ base w ov q) (hb : base' ≤ base) : OwnQ base' w ov q :=
  ⟨owns_low h.row hb, fun i hi => owns_low (h.lists i hi) hb, h.apart⟩

set_option maxHeartbeats 4000000 in
theorem specInstall_own (v : Value) (l : List Ch) (h : Int) (vw : Value) (r : List Rw) (w : World) {lo hi lo' hi' : Nat} (hl : ChainsAt lo hi w v l) (hr : RowsAt lo' hi' w vw r) (hn : Small l) (hnr : r.length ≤ 1048576) :
    Calls Tryz.prog 87 #[.agg #[v], .int .i64 h, vw] w fun e w' => ISAns w.heap.size w' l h r e ∧ Below w.heap.size w w' := by
  obtain ⟨a, cap, hv⟩ : ∃ a cap, v = .slice a l.length cap := by obtain ⟨a, cap, h1, _⟩ := hl; exact ⟨a, cap, h1⟩
  subst hv
  obtain ⟨ra, rcap, hrv, hrm, hrc⟩ := id hr
  subst hrv
  have hbx : Below w.heap.size w ((w.alloc (Obj.cells #[Value.slice a l.length cap] 32)).alloc (Obj.cells #[Value.slice none 0 0] 32)) := ((Below.refl _ _).alloc (Nat.le_refl _) _).alloc (by simp) _
  go_enter Tryz.func87, Tryz.ntmps87
  go_wp2_with fail
  refine (specStoreOk_any _ l _ (hl.stays hbx)).mono ?_
  rintro e w1 ⟨⟨q, rfl, hq⟩, hb1⟩
  have b1 := hbx.trans (hb1.mono hbx.size)
  have p0 : w1.cell? ⟨w.heap.size, 0, none⟩ = some (.slice a l.length cap) := cell_stays hb1 (by simp [go_sem])
  have p1 : w1.cell? ⟨w.heap.size + 1, 0, none⟩ = some (.slice none 0 0) := cell_stays hb1 (by simp [go_sem])
  have q1 : w1.frozen? ⟨w.heap.size + 1, 0, none⟩ = false := by rw [hb1.frozen (by simp)]; simp [go_sem]
  have z1 : w.heap.size + 1 < w1.heap.size := cell_lt p1
  clear hb1 hbx
  by_cases hs : storeOk l
  · obtain rfl := hq.2 hs
    clear hq
    by_cases h1 : h < 1
    · go_wp2
      refine bodyPost_ret (v := .tuple #[.agg #[.slice none 0 0], .bool false]) (by simp [results, Tryz.results87, go_sem, p1]) rfl ⟨.inl ⟨fun hA => by have := hA.2.1; omega, rfl⟩, ?_⟩
      first | exact b1 | exact b1.setCell (by simp) _
    · by_cases hh : hourB h = true
      · have h1f : decide (h < 1) = false := decide_eq_false h1
        go_wp2_with (first | (go_at_call 58; refine (l1hour_any _ _).mono ?_; rintro e w2 ⟨rfl, rfl⟩))
        have hh' := hh
        change Hid _ at hh'
        clear hh h1f
        go_loopw [8] (fun i wr => ∃ k : Nat, k ≤ r.length ∧ i = .int .i64 k ∧ Below w2.heap.size w2 wr ∧ ∀ j, j < k → tabB (rAt r j).t = true ∧ lastO (listAt l (rAt r j).t (rAt r j).r) < h) (fun i _ => r.length - (intOf i).toNat)
        case atStart => exact ⟨0, Nat.zero_le _, rfl, Below.refl _ _, fun j hj => absurd hj (Nat.not_lt_zero _)⟩
        case round =>
          obtain ⟨k, hk, rfl, hb, hgood⟩ := hrel
          rename World => wr
          change Hid _ at hgood
          have bw := b1.trans (hb.mono b1.size)
          have r0 := cell_stays hb p0
          have r1 := cell_stays hb p1
          have f1 : wr.frozen? ⟨w.heap.size + 1, 0, none⟩ = false := by rw [hb.frozen (by show w.heap.size + 1 < _; omega)]; exact q1
          have hlw := hl.stays bw
          by_cases hlt : k < r.length
          · obtain ⟨b, off, rfl, hlo, hhi, hcc⟩ := hrc (by omega)
            obtain ⟨c0, c1, c2⟩ := hcc k hlt
            have k0 := cell_regrown r0
            have k1 := cell_regrown (cell_stays bw c0)
            have k2 := cell_regrown (cell_stays bw c1)
            have i0 : (0 : Int) ≤ (k : Int) := by omega
            have i1 : (k : Int) < (r.length : Int) := by omega
            clear hrc hcc c0 c1 c2
            by_cases ht : tabB (rAt r k).t = true
            · by_cases hla : lastO (listAt l (rAt r k).t (rAt r k).r) < h
              · have hd : decide (h ≤ lastO (listAt l (rAt r k).t (rAt r k).r)) = false := decide_eq_false (by omega)
                go_wp2_with fail
                refine wp_region_quiet_below (by kernel_rfl) (by kernel_rfl) ?_
                repeat (go_big_quiet_step (first | (go_at_call 46; exact Calls.regrown_of (l1table_any _ _ _)) | (go_at_call 59; exact Calls.regrown_of (l1last_is _ _ _ _ _ (hlw.stays (below_regrown _ _ _)) hs))))
                refine wpQuiet_nil ?_
                intro w3 hw3
                obtain ⟨⟨dq, osq⟩, hw4⟩ := hw3
                have hb3 : Below _ _ w3 := hw4 ▸ below_regrown _ dq osq
                clear hw4
                have hg2 : ∀ j, j < k + 1 → tabB (rAt r j).t = true ∧ lastO (listAt l (rAt r j).t (rAt r j).r) < h := fun j hj => by
                  by_cases e : j = k
                  · subst e; exact ⟨ht, hla⟩
                  · exact hgood.out j (by omega)
                change Hid _ at hg2
                clear ht hd k0 k1 k2 hla
                go_wp2
                go_roundw
                case rel => exact ⟨k + 1, by omega, by go_num, hb.trans (hb3.mono hb.size), hg2⟩
                case measure => simp [intOf]; omega
              · have hd : h ≤ lastO (listAt l (rAt r k).t (rAt r k).r) := by omega
                go_wp2_with fail
                refine wp_region_quiet_below (by kernel_rfl) (by kernel_rfl) ?_
                repeat (go_big_quiet_step (first | (go_at_call 46; exact Calls.regrown_of (l1table_any _ _ _)) | (go_at_call 59; exact Calls.regrown_of (l1last_is _ _ _ _ _ (hlw.stays (below_regrown _ _ _)) hs))))
                refine wpQuiet_nil ?_
                intro w3 hw3
                obtain ⟨⟨dq, osq⟩, hw4⟩ := hw3
                have hb3 : Below _ _ w3 := hw4 ▸ below_regrown _ dq osq
                clear hw4
                have s1 := cell_stays hb3 r1
                have sf : w3.frozen? ⟨w.heap.size + 1, 0, none⟩ = false := by rw [hb3.frozen (cell_lt r1)]; exact f1
                go_wp2
                refine bodyPost_ret (v := .tuple #[.agg #[.slice none 0 0], .bool false]) (by simp [results, Tryz.results87, go_sem, s1]) rfl ⟨.inl ⟨fun hA => by have := (hA.2.2.2 k hlt).2; omega, rfl⟩, ?_⟩
                exact (bw.trans (hb3.mono bw.size)).setCell (by simp) _
            · have htf : tabB (rAt r k).t = false := by simpa using ht
              go_wp2_with fail
              refine wp_region_quiet_below (by kernel_rfl) (by kernel_rfl) ?_
              repeat (go_big_quiet_step (first | (go_at_call 46; exact Calls.regrown_of (l1table_any _ _ _)) | (go_at_call 59; exact Calls.regrown_of (l1last_is _ _ _ _ _ (hlw.stays (below_regrown _ _ _)) hs))))
              refine wpQuiet_nil ?_
              intro w3 hw3
              obtain ⟨⟨dq, osq⟩, hw4⟩ := hw3
              have hb3 : Below _ _ w3 := hw4 ▸ below_regrown _ dq osq
              clear hw4
              have s1 := cell_stays hb3 r1
              have sf : w3.frozen? ⟨w.heap.size + 1, 0, none⟩ = false := by rw [hb3.frozen (cell_lt r1)]; exact f1
              go_wp2
              refine bodyPost_ret (v := .tuple #[.agg #[.slice none 0 0], .bool false]) (by simp [results, Tryz.results87, go_sem, s1]) rfl ⟨.inl ⟨fun hA => ht ((hA.2.2.2 k hlt).1), rfl⟩, ?_⟩
              exact (bw.trans (hb3.mono bw.size)).setCell (by simp) _
          · have hkk : k = r.length := by omega
            subst hkk
            have hA : SArgs l h r := ⟨hs, by omega, hh'.out, hgood.out⟩
            change Hid _ at hA
            clear hgood
            have hs' : ∀ i, i < l.length → 0 < (cAt l i).l.length ∧ (cAt l i).l.length ≤ 1048576 := fun i hi => ⟨(hs.2 i hi).2.2.1, by have := (hs.2 i hi).2.2.2.1; omega⟩
            have hrw := hr.stays bw
            go_wp2_with fail
            refine (l1own_any _ l _ hlw hs' hn.1).mono ?_
            rintro e w3 ⟨ov, q, rfl, hO, hqc, hb3⟩
            obtain ⟨oa, om, oc, rfl⟩ := owns_slice hO.row
            have hbO : ∀ g, ((Value.slice oa om oc).ownBlock = some g ∨ ∃ i, i < q.length ∧ (qAt q i).2.ownBlock = some g) → wr.heap.size + 3 ≤ g ∧ g < w3.heap.size := fun g hg => hO.base hg
            have z3 := hb3.size
            have b4 : Below w3.heap.size w3 (w3.alloc (Obj.cells #[.slice oa om oc] 32)) := (Below.refl _ _).alloc (Nat.le_refl _) _
            have hrw4 := (hrw.stays hb3).stays b4
            have hO4 := hO.stays b4
            have x0 : (w3.alloc (Obj.cells #[.slice oa om oc] 32)).cell? ⟨w3.heap.size, 0, none⟩ = some (.slice oa om oc) := by simp [go_sem]
            have x0f : (w3.alloc (Obj.cells #[.slice oa om oc] 32)).frozen? ⟨w3.heap.size, 0, none⟩ = false := by simp [go_sem]
            have s1 := cell_stays b4 (cell_stays hb3 r1)
            have sf : (w3.alloc (Obj.cells #[.slice oa om oc] 32)).frozen? ⟨w.heap.size + 1, 0, none⟩ = false := by rw [b4.frozen (cell_lt (cell_stays hb3 r1)), hb3.frozen (cell_lt r1)]; exact f1
            have bw4 : Below w.heap.size w (w3.alloc (Obj.cells #[.slice oa om oc] 32)) := (bw.trans (hb3.mono bw.size)).trans (b4.mono (by have := bw.size; omega))
            have z4 : (w3.alloc (Obj.cells #[.slice oa om oc] 32)).heap.size = w3.heap.size + 1 := by simp
            go_wp2_with fail
            generalize w3.alloc (Obj.cells #[.slice oa om oc] 32) = w4 at *
            refine (l1rows_any _ r _ hrw4 hnr).mono ?_
            rintro e w5 ⟨rv, rfl, hR5, hb5⟩
            have hRl := rowsL_length r r.length
            have hRs := (rowsL_spec r r.length).1
            generalize hRR : rowsL r r.length = R at *
            change Hid _ at hRR
            obtain ⟨ra5, rc5, rfl⟩ : ∃ a c, rv = .slice a R.length c := by
              rcases hR5.2 with ⟨h1, h2⟩ | ⟨g, cap, cur, h1, _⟩
              · exact ⟨_, _, by rw [h1, h2]⟩
              · exact ⟨_, _, h1⟩
            have hrb : ∀ g, (Value.slice ra5 R.length rc5).ownBlock = some g → w4.heap.size ≤ g ∧ g < w5.heap.size := fun g hg => owns_lt hR5 hg
            have z5 := hb5.size
            have zw := bw.size
            have bw5 := bw4.trans (hb5.mono bw4.size)
            have z41 : w3.heap.size + 1 ≤ w4.heap.size := by omega
            have z42 : w4.heap.size ≤ w3.heap.size + 1 := by omega
            have hln := hn.1
            have hw1 : w.heap.size + 1 < wr.heap.size := cell_lt r1
            change Hid _ at hRs
            clear z4 hs' hrw hrw4 hlw
            have t0 := cell_stays hb5 x0
            have t0f : w5.frozen? ⟨w3.heap.size, 0, none⟩ = false := by rw [hb5.frozen (cell_lt x0)]; exact x0f
            have t1 := cell_stays hb5 s1
            have t1f : w5.frozen? ⟨w.heap.size + 1, 0, none⟩ = false := by rw [hb5.frozen (cell_lt s1)]; exact sf
            have hO5 := (hO4.stays hb5).low (base' := wr.heap.size) (by omega)
            have hq0 : Hid (Puts l h R 0 (qchs q)) := hqc
            have hown0 : Hid (∀ g, ((Value.slice oa om oc).ownBlock = some g ∨ ∃ i, i < q.length ∧ (qAt q i).2.ownBlock = some g) → g ≠ w3.heap.size ∧ (Value.slice ra5 R.length rc5).ownBlock ≠ some g) := fun g hg => by
              have := hbO g hg
              exact ⟨by omega, fun e => by have := (hrb g e).1; omega⟩
            clear hO hO4 x0 x0f s1 sf hb5 hqc hbO b4 bw4 r0 r1 f1 hb p0 p1 q1
            go_wp2_with fail
            generalize wr = wq at *
            go_loopw [11] (fun t11 wx => ∃ (k : Nat) (ov : Value) (q' : List Qc), k ≤ R.length ∧ t11 = .int .i64 (k : Int) ∧ Hid (Puts l h R k (qchs q')) ∧ Below w.heap.size w wx ∧ wx.cell? ⟨w3.heap.size, 0, none⟩ = some ov ∧ wx.frozen? ⟨w3.heap.size, 0, none⟩ = false ∧ OwnQ wq.heap.size wx ov q' ∧ Hid (∀ g, (ov.ownBlock = some g ∨ ∃ i, i < q'.length ∧ (qAt q' i).2.ownBlock = some g) → g ≠ w3.heap.size ∧ (Value.slice ra5 R.length rc5).ownBlock ≠ some g) ∧ wx.ownsRow w4.heap.size 111 3 (.slice ra5 R.length rc5) R.length (flat R) ∧ wx.cell? ⟨w.heap.size + 1, 0, none⟩ = some (.slice none 0 0) ∧ wx.frozen? ⟨w.heap.size + 1, 0, none⟩ = false ∧ w5.heap.size ≤ wx.heap.size) (fun t11 _ => R.length - (intOf t11).toNat)
            case atStart => exact ⟨0, _, q, Nat.zero_le _, rfl, hq0, bw5, t0, t0f, hO5, hown0, hR5, t1, t1f, Nat.le_refl _⟩
            case round =>
              rename World => wx
              obtain ⟨k, ov, q', hk, rfl, hP, bx, cx, cxf, hOx, hownx, hRx, c1, c1f, zx⟩ := hrel
              have hcont := Puts.cont hs hRs.out hk hP.out
              have hlen := Puts.length hP.out
              rw [qchs_length] at hlen
              have hsx : ∀ i, i < q'.length → 0 < (qAt q' i).1.l.length ∧ (qAt q' i).1.l.length ≤ 1048576 := fun i hi => by
                have := hcont.lists hs (i := i) (by rw [qchs_length]; exact hi)
                rwa [qchs_at q' hi] at this
              have hbase : ∀ g, (ov.ownBlock = some g ∨ ∃ i, i < q'.length ∧ (qAt q' i).2.ownBlock = some g) → wq.heap.size ≤ g ∧ g < wx.heap.size := fun g hg => hOx.base hg
              change Hid _ at hsx
              change Hid _ at hbase
              change Hid _ at hcont
              by_cases hlt : k < R.length
              · obtain ⟨g, cap, hform, hg1, hg2⟩ := hRx.form (by omega)
                cases hform
                obtain ⟨e1, e2, e3⟩ := row_cells hRx hlt
                have i0 : (0 : Int) ≤ (k : Int) := by omega
                have i1 : (k : Int) < (R.length : Int) := by omega
                have S0 : wx.drew.cell? ⟨g, k * 3, none⟩ = some (.int .i64 (rAt R k).t) ∧ wx.drew.cell? ⟨g, k * 3 + 1, none⟩ = some (.int .i64 (rAt R k).r) ∧ wx.drew.cell? ⟨g, k * 3 + 1 + 1, none⟩ = some (.int .i64 (rAt R k).v) := ⟨e1, e2, e3⟩
                clear e1 e2 e3
                go_wp2_with fail
                refine region_last (fun x => x.cell? ⟨g, k * 3, none⟩ = some (.int .i64 (rAt R k).t) ∧ x.cell? ⟨g, k * 3 + 1, none⟩ = some (.int .i64 (rAt R k).r) ∧ x.cell? ⟨g, k * 3 + 1 + 1, none⟩ = some (.int .i64 (rAt R k).v)) (by kernel_rfl) (by kernel_rfl) (by kernel_rfl) S0 (fun hHeld => ?_)
                simp only [List.dropLast, List.length_cons, List.length_nil, Nat.reduceAdd]
                refine takeL (i := 0) (v := ?_) rfl (by kernel_rfl) (by kernel_rfl) (by kernel_rfl) (fun _ _ _ h => h) rfl (by assumption) ?_ ?_
                rotate_left
                · (intro wS hSw; (try dsimp only at hSw); go_simp; try with_reducible rfl)
                (try simp only [Act.put, List.setIfInBounds_toArray, List.set_cons_zero, List.set_cons_succ])
                refine takeL (i := 1) (v := ?_) rfl (by kernel_rfl) (by kernel_rfl) (by kernel_rfl) (fun _ _ _ h => h) rfl (by assumption) ?_ ?_
                rotate_left
                · (intro wS hSw; (try dsimp only at hSw); go_simp; try with_reducible rfl)
                (try simp only [Act.put, List.setIfInBounds_toArray, List.set_cons_zero, List.set_cons_succ])
                refine takeL (i := 2) (v := ?_) rfl (by kernel_rfl) (by kernel_rfl) (by kernel_rfl) (fun _ _ _ h => h) rfl (by assumption) ?_ ?_
                rotate_left
                · (intro wS hSw; (try dsimp only at hSw); go_simp; try with_reducible rfl)
                (try simp only [Act.put, List.setIfInBounds_toArray, List.set_cons_zero, List.set_cons_succ])
                refine takeL (i := 3) (v := ?_) rfl (by kernel_rfl) (by kernel_rfl) (by kernel_rfl) (fun _ _ _ h => h) rfl (by assumption) ?_ ?_
                rotate_left
                · (intro wS hSw; (try dsimp only at hSw); go_simp; try with_reducible rfl)
                (try simp only [Act.put, List.setIfInBounds_toArray, List.set_cons_zero, List.set_cons_succ])
                refine takeL (i := 4) (v := ?_) rfl (by kernel_rfl) (by kernel_rfl) (by kernel_rfl) (fun _ _ _ h => h) rfl (by assumption) ?_ ?_
                rotate_left
                · (intro wS hSw; (try dsimp only at hSw); go_simp; try with_reducible rfl)
                (try simp only [Act.put, List.setIfInBounds_toArray, List.set_cons_zero, List.set_cons_succ])
                refine takeL (i := 5) (v := ?_) rfl (by kernel_rfl) (by kernel_rfl) (by kernel_rfl) (fun _ _ _ h => h) rfl (by assumption) ?_ ?_
                rotate_left
                · (intro wS hSw; (try dsimp only at hSw); go_simp; try with_reducible rfl)
                (try simp only [Act.put, List.setIfInBounds_toArray, List.set_cons_zero, List.set_cons_succ])
                refine takeL (i := 6) (v := ?_) rfl (by kernel_rfl) (by kernel_rfl) (by kernel_rfl) (fun _ _ _ h => h) rfl (by assumption) ?_ ?_
                rotate_left
                · (intro wS hSw; (try dsimp only at hSw); go_simp; try with_reducible rfl)
                (try simp only [Act.put, List.setIfInBounds_toArray, List.set_cons_zero, List.set_cons_succ])
                refine takeL (i := 7) (v := ?_) rfl (by kernel_rfl) (by kernel_rfl) (by kernel_rfl) (fun _ _ _ h => h) rfl (by assumption) ?_ ?_
                rotate_left
                · (intro wS hSw; (try dsimp only at hSw); go_simp; try with_reducible rfl)
                (try simp only [Act.put, List.setIfInBounds_toArray, List.set_cons_zero, List.set_cons_succ])
                refine takeL (i := 8) (v := ?_) rfl (by kernel_rfl) (by kernel_rfl) (by kernel_rfl) (fun _ _ _ h => h) rfl (by assumption) ?_ ?_
                rotate_left
                · (intro wS hSw; (try dsimp only at hSw); go_simp; try with_reducible rfl)
                (try simp only [Act.put, List.setIfInBounds_toArray, List.set_cons_zero, List.set_cons_succ])
                refine takeL (i := 9) (v := ?_) rfl (by kernel_rfl) (by kernel_rfl) (by kernel_rfl) (fun _ _ _ h => h) rfl (by assumption) ?_ ?_
                rotate_left
                · (intro wS hSw; (try dsimp only at hSw); go_simp; try with_reducible rfl)
                (try simp only [Act.put, List.setIfInBounds_toArray, List.set_cons_zero, List.set_cons_succ])
                refine takeL (i := 10) (v := ?_) rfl (by kernel_rfl) (by kernel_rfl) (by kernel_rfl) (fun _ _ _ h => h) rfl (by assumption) ?_ ?_
                rotate_left
                · (intro wS hSw; (try dsimp only at hSw); go_simp; try with_reducible rfl)
                (try simp only [Act.put, List.setIfInBounds_toArray, List.set_cons_zero, List.set_cons_succ])
                refine takeL (i := 11) (v := ?_) rfl (by kernel_rfl) (by kernel_rfl) (by kernel_rfl) (fun _ _ _ h => h) rfl (by assumption) ?_ ?_
                rotate_left
                · (intro wS hSw; (try dsimp only at hSw); go_simp; try with_reducible rfl)
                (try simp only [Act.put, List.setIfInBounds_toArray, List.set_cons_zero, List.set_cons_succ])
                refine wpAnyH_done (by kernel_rfl) ?_ _
                refine lastL (n := 12) rfl rfl ?_
                clear hHeld
                go_simp
                refine (l1put_any w3.heap.size ov q' (rAt R k).t (rAt R k).r (h, (rAt R k).v) _ (hOx.stays (Below.refl _ _).drew) (by show _ ≤ wx.heap.size; omega) (by exact cx) (by exact cxf) (fun g hg => (hownx.out g hg).1) (by omega) hsx.out).mono ?_
                rintro e w7 ⟨rfl, ov7, q7, d0, d0f, hO7, hput, hturn, hown7⟩
                have z7 : wx.heap.size ≤ w7.heap.size := hturn.size
                have hkeep : ∀ g, g < wx.heap.size → g ≠ w3.heap.size → (∀ e, (ov.ownBlock = some e ∨ ∃ i, i < q'.length ∧ (qAt q' i).2.ownBlock = some e) → g ≠ e) → w7.heap[g]? = wx.heap[g]? := fun g hg h1 h2 => by
                  refine hturn.block g hg (fun e => ?_)
                  rcases e with e | e
                  · exact h1 e
                  · exact h2 g e rfl
                have b7 : Below w.heap.size w w7 := bx.drew.trans ((hturn.below (B := w.heap.size) (by show _ ≤ wx.heap.size; omega) (fun g hg => by
                  rcases hg with hg | hg
                  · omega
                  · have := (hbase.out g hg).1; omega)))
                have hR7 : w7.ownsRow w4.heap.size 111 3 (.slice (some ⟨g, 0, none⟩) R.length rc5) R.length (flat R) := owns_keep hRx fun x hx hxl => hkeep x hxl (by have := (hrb x hx).1; omega) (fun e he e' => (hownx.out e he).2 (by rw [← e']; exact hx))
                have k1 : w7.heap[w.heap.size + 1]? = wx.heap[w.heap.size + 1]? := hkeep _ (cell_lt c1) (by omega) (fun e he => by have := (hbase.out e he).1; omega)
                have d1 : w7.cell? ⟨w.heap.size + 1, 0, none⟩ = some (.slice none 0 0) := cell_same k1 c1
                have d1f : w7.frozen? ⟨w.heap.size + 1, 0, none⟩ = false := by rw [frozen_same k1]; exact c1f
                have hP7 : Hid (Puts l h R (k + 1) (qchs q7)) := ⟨qchs q', hP.out, hput⟩
                have hown8 : Hid (∀ x, (ov7.ownBlock = some x ∨ ∃ i, i < q7.length ∧ (qAt q7 i).2.ownBlock = some x) → x ≠ w3.heap.size ∧ (Value.slice (some ⟨g, 0, none⟩) R.length rc5).ownBlock ≠ some x) := fun x hx => by
                  rcases hown7 x hx with e | e
                  · exact hownx.out x e
                  · have e' : wx.heap.size ≤ x := e
                    exact ⟨by omega, fun e2 => by have := (hrb x e2).2; omega⟩
                clear hput hturn hown7 hcont hsx hbase hownx hOx hRx hkeep
                go_wp2
                go_roundw
                case rel => exact ⟨k + 1, ov7, q7, by omega, by go_num, hP7, b7, d0, d0f, hO7, hown8, hR7, d1, d1f, by omega⟩
                case measure => simp [intOf]; omega
              · have hkk : k = R.length := by omega
                subst hkk
                obtain ⟨va, vm, vc, rfl⟩ := owns_slice hOx.row
                have hch := hOx.chains (by omega) hsx.out
                go_wp2_with fail
                refine (specStoreOk_any _ (qchs q') _ hch).mono ?_
                rintro e w8 ⟨⟨qq, rfl, hqq⟩, hb8⟩
                have b8 := bx.trans (hb8.mono bx.size)
                have g0 := cell_stays hb8 cx
                have g1 := cell_stays hb8 c1
                have g1f : w8.frozen? ⟨w.heap.size + 1, 0, none⟩ = false := by rw [hb8.frozen (cell_lt c1)]; exact c1f
                have hO8 := hOx.stays hb8
                cases qq
                · have hno : ¬ storeOk (qchs q') := fun e => by have := hqq.2 e; cases this
                  clear hqq hcont hsx
                  go_wp2
                  refine bodyPost_ret (v := .tuple #[.agg #[.slice none 0 0], .bool false]) (by simp [results, Tryz.results87, go_sem, g1]) rfl ⟨.inr ⟨hA.out, qchs q', by rw [hRR.out]; exact hP.out, .inl ⟨hno, rfl⟩⟩, ?_⟩
                  exact b8.setCell (by simp) _
                · have hyes := hqq.1 rfl
                  change Hid _ at hyes
                  clear hqq hcont
                  have hO9 : OwnS w.heap.size (w8.setCell ⟨w.heap.size + 1, 0, none⟩ (.slice va vm vc)) (.slice va vm vc) (qchs q') := OwnQ.ownS (base := wq.heap.size) (by omega) (hO8.keep fun g hg _ => Below.heap_setCell _ _ _ _ (by have := (hbase.out g hg).1; show g ≠ w.heap.size + 1; omega)) (fun i hi => (hsx.out i hi).1)
                  go_wp2
                  refine bodyPost_ret (v := .tuple #[.agg #[.slice va vm vc], .bool true]) (by simp [results, Tryz.results87, go_sem, g1]) rfl ⟨.inr ⟨hA.out, qchs q', by rw [hRR.out]; exact hP.out, .inr ⟨hyes.out, _, rfl, hO9⟩⟩, ?_⟩
                  exact b8.setCell (by simp) _
      · have hhf : hourB h = false := by simpa using hh
        have h1f : decide (h < 1) = false := decide_eq_false h1
        go_wp2_with (first | (go_at_call 58; refine (l1hour_any _ _).mono ?_; rintro e w2 ⟨rfl, rfl⟩))
        refine bodyPost_ret (v := .tuple #[.agg #[.slice none 0 0], .bool false]) (by simp [results, Tryz.results87, go_sem, p1]) rfl ⟨.inl ⟨fun hA => hh hA.2.2.1, rfl⟩, ?_⟩
        first | exact b1 | exact b1.setCell (by simp) _
  · have hqf : q = false := by
      cases q
      · rfl
      · exact absurd (hq.1 rfl) hs
    subst hqf
    clear hq
    go_wp2
    refine bodyPost_ret (v := .tuple #[.agg #[.slice none 0 0], .bool false]) (by simp [results, Tryz.results87, go_sem, p1]) rfl ⟨.inl ⟨fun hA => hs hA.1, rfl⟩, ?_⟩
    first | exact b1 | exact b1.setCell (by simp) _

end Go.Proofs.YtmecbppblbmchaaGreatDoor

/- What the two Installs ask is the same. -/
namespace Go.Proofs.YtmecbppblbmchaaGreatDoor
open Go.ChangeShapes Go.WideShapes Go.ChangeAt Go.RowKit Go.Maps Go.Sort
set_option linter.unusedVariables false
open Go.ChangeShapes Go.WideShapes Go.ChangeAt Go.RowKit Go.Sort
set_option maxRecDepth 100000
attribute [local go_sem ↓] Go.wp_at_zero Go.wp_at_succ

theorem instKeys_one {l : List Ch} {r : List Rw} {ks ks' : List (Int × Int)} (h : InstKeys l r ks) (h' : InstKeys l r ks') : ks = ks' :=
  sorted_one h.2.1 h'.2.1 fun x => ⟨fun hx => (h'.2.2.2 x.1 x.2 (h.2.2.1 x hx).1 (h.2.2.1 x hx).2).2 ((h.2.2.2 x.1 x.2 (h.2.2.1 x hx).1 (h.2.2.1 x hx).2).1 hx), fun hx => (h.2.2.2 x.1 x.2 (h'.2.2.1 x hx).1 (h'.2.2.1 x hx).2).2 ((h'.2.2.2 x.1 x.2 (h'.2.2.1 x hx).1 (h'.2.2.1 x hx).2).1 hx)⟩

theorem vAt_snoc_lt (l : List Vr) (x : Vr) {i : Nat} (h : i < l.length) : vAt (l ++ [x]) i = vAt l i := by simp [vAt, List.getElem?_append_left h]
theorem vAt_snoc_eq (l : List Vr) (x : Vr) : vAt (l ++ [x]) l.length = x := by simp [vAt]

theorem versOk_snoc {l : List Vr} {h v : Int} (hl : versOk l ∨ l = []) (hlast : lastO l < h) (h1 : 1 ≤ h) (h2 : h ≤ 1000000) (hlen : l.length < 200) : versOk (l ++ [(h, v)]) := by
  refine ⟨by simp, by simp; omega, fun k hk => ?_⟩
  by_cases e : k = l.length
  · subst e
    rw [verOk, vAt_snoc_eq]
    refine ⟨h1, h2, fun hp => ?_⟩
    rw [vAt_snoc_lt _ _ (by omega)]
    rw [lastO, if_neg (by omega)] at hlast
    exact hlast
  · have hk' : k < l.length := by simp at hk; omega
    rcases hl with hl | rfl
    · have := hl.2.2 k hk'
      unfold verOk at this ⊢
      rw [vAt_snoc_lt _ _ hk']
      refine ⟨this.1, this.2.1, fun hp => ?_⟩
      rw [vAt_snoc_lt _ _ (by omega)]
      exact this.2.2 hp
    · simp at hk'

theorem lv_row {r : List Rw} : ∀ {k i : Nat}, i < k → ∃ v, lv r k (rAt r i).t (rAt r i).r = some v
  | 0, i, h => absurd h (Nat.not_lt_zero _)
  | k + 1, i, h => by
    by_cases e : (rAt r k).t = (rAt r i).t ∧ (rAt r k).r = (rAt r i).r
    · exact ⟨(rAt r k).v, by simp [lv, e.1, e.2]⟩
    · have hik : i < k := by
        by_cases hh : i < k
        · exact hh
        · have : i = k := by omega
          subst this
          exact absurd ⟨rfl, rfl⟩ e
      obtain ⟨v, hv⟩ := lv_row (r := r) hik
      refine ⟨v, ?_⟩
      rw [lv]
      first
        | (rw [if_neg e]; exact hv)
        | (rw [if_neg (fun h => e ⟨h.1.symm, h.2.symm⟩)]; exact hv)

theorem hour_iff (h : Int) : hourB h = true ↔ 0 ≤ h ∧ h ≤ 1000000 := by simp [hourB]

theorem inst_same {l : List Ch} {h : Int} {r : List Rw} {ks : List (Int × Int)} (hw : WfCh l) (hwr : WfRw r) (hk : InstKeys l r ks) :
    (SArgs l h r ∧ storeOk (chainsOf ks (instL l h r))) ↔ (Args l h r ∧ ks.length ≤ 200) := by
  constructor
  · rintro ⟨⟨hs, h1, hh, hrow⟩, hL⟩
    have hlen : ks.length ≤ 200 := by have := hL.1; rwa [chainsOf_length] at this
    refine ⟨⟨hs, hh, by omega, fun t r' ht hr v hv => ?_⟩, hlen⟩
    obtain ⟨i, hi, e1, e2⟩ := lv_some hv
    have := hrow i hi
    rw [e1, e2] at this
    refine ⟨this.1, this.2, ?_⟩
    have hmem : (t, r') ∈ ks := (hk.2.2.2 t r' ht hr).2 (.inr (by rw [hv]; rfl))
    obtain ⟨j, hj, ej⟩ := List.getElem_of_mem hmem
    have hc := (hL.2 j (by rw [chainsOf_length]; exact hj)).2.2.2.1
    rw [chainsOf_at ks _ hj] at hc
    have ev : vAt ks j = (t, r') := by simp [vAt, hj, ej]
    rw [ev] at hc
    dsimp only at hc
    rw [instL, hv] at hc
    simp at hc
    omega
  · rintro ⟨⟨hs, hh, h0, hf⟩, hlen⟩
    have hhr := (hour_iff h).1 hh
    refine ⟨⟨hs, by omega, hh, fun i hi => ?_⟩, by rw [chainsOf_length]; exact hlen, fun i hi => ?_⟩
    · obtain ⟨v, hv⟩ := lv_row (r := r) hi
      have := hf _ _ (hwr i hi).1 (hwr i hi).2 v hv
      exact ⟨this.1, this.2.1⟩
    · rw [chainsOf_length] at hi
      have hmem : vAt ks i ∈ ks := by simp [vAt, hi]
      have hwf := hk.2.2.1 _ hmem
      have hwhy := (hk.2.2.2 (vAt ks i).1 (vAt ks i).2 hwf.1 hwf.2).1 hmem
      unfold chainOk
      rw [chainsOf_at ks _ hi]
      dsimp only
      have hold : ∀ j, j < l.length → km l j (vAt ks i).1 (vAt ks i).2 → tabB (vAt ks i).1 = true ∧ versOk (listAt l (vAt ks i).1 (vAt ks i).2) := fun j hj hkm => by
        rw [listAt_is hs hj hkm]
        have := hs.2 j hj
        exact ⟨by rw [← hkm.1]; exact this.1, this.2.2⟩
      refine ⟨?_, fun hp => ?_, ?_⟩
      · rcases hwhy with ⟨j, hj, hkm⟩ | hsome
        · exact (hold j hj hkm).1
        · obtain ⟨v, hv⟩ := Option.isSome_iff_exists.1 hsome
          exact (hf _ _ hwf.1 hwf.2 v hv).1
      · rw [chainsOf_at ks _ (by omega)]
        dsimp only
        have hpw := List.pairwise_iff_getElem.1 hk.2.1 (i - 1) i (by omega) hi (by omega)
        have a1 : vAt ks (i - 1) = ks[i - 1] := by simp [vAt, show i - 1 < ks.length by omega]
        have a2 : vAt ks i = ks[i] := by simp [vAt, hi]
        rw [a1, a2]
        exact hpw
      · rw [instL]
        cases hv : lv r r.length (vAt ks i).1 (vAt ks i).2 with
        | none =>
          rw [hv] at hwhy
          rcases hwhy with ⟨j, hj, hkm⟩ | hsome
          · simpa using (hold j hj hkm).2
          · simp at hsome
        | some v =>
          have hfi := hf _ _ hwf.1 hwf.2 v hv
          dsimp only
          refine versOk_snoc ?_ hfi.2.1 (by omega) (by omega) hfi.2.2
          by_cases hex : ∃ j, j < l.length ∧ km l j (vAt ks i).1 (vAt ks i).2
          · obtain ⟨j, hj, hkm⟩ := hex
            exact .inl (hold j hj hkm).2
          · exact .inr (listAt_none fun j hj hkm => hex ⟨j, hj, hkm⟩)

/-- What Install answers, one way for both. -/
def InOk (l : List Ch) (h : Int) (r : List Rw) : Prop := Args l h r ∧ ∀ ks, InstKeys l r ks → ks.length ≤ 200
def InAns (l : List Ch) (h : Int) (r : List Rw) (out : List Ch) (b : Bool) : Prop := (¬ InOk l h r ∧ out = [] ∧ b = false) ∨ (InOk l h r ∧ b = true ∧ ∃ ks, InstKeys l r ks ∧ out = chainsOf ks (instL l h r))
theorem InAns.one {l : List Ch} {h : Int} {r : List Rw} {a a' : List Ch} {b b' : Bool} (ha : InAns l h r a b) (hb : InAns l h r a' b') : a = a' ∧ b = b' := by
  rcases ha with ⟨h1, rfl, rfl⟩ | ⟨h1, rfl, ks, hk, rfl⟩ <;> rcases hb with ⟨g1, rfl, rfl⟩ | ⟨g1, rfl, ks', hk', rfl⟩
  · exact ⟨rfl, rfl⟩
  · exact absurd g1 h1
  · exact absurd h1 g1
  · rw [instKeys_one hk hk']; exact ⟨rfl, rfl⟩
theorem InAns.small {l : List Ch} {h : Int} {r : List Rw} {a : List Ch} {b : Bool} (ha : InAns l h r a b) : Small a := by
  rcases ha with ⟨h1, rfl, rfl⟩ | ⟨h1, rfl, ks, hk, rfl⟩
  · exact ⟨Nat.zero_le _, fun i hi => absurd hi (Nat.not_lt_zero _)⟩
  · have hlen := h1.2 ks hk
    refine ⟨by rw [chainsOf_length]; omega, fun i hi => ?_⟩
    rw [chainsOf_length] at hi
    rw [chainsOf_at ks _ hi]
    show (instL _ _ _ _ _).length ≤ _
    have hs := h1.1.1
    have hl : (listAt l (vAt ks i).1 (vAt ks i).2).length ≤ 200 := by
      by_cases hex : ∃ j, j < l.length ∧ km l j (vAt ks i).1 (vAt ks i).2
      · obtain ⟨j, hj, hkm⟩ := hex
        rw [listAt_is hs hj hkm]
        exact (hs.2 j hj).2.2.2.1
      · rw [listAt_none fun j hj hkm => hex ⟨j, hj, hkm⟩]
        simp
    unfold instL
    rw [List.length_append]
    cases lv r r.length (vAt ks i).1 (vAt ks i).2 <;> simp <;> omega

theorem sargs_of_args {l : List Ch} {h : Int} {r : List Rw} (hwr : WfRw r) (ha : Args l h r) : SArgs l h r := by
  obtain ⟨hs, hh, h0, hf⟩ := ha
  have hhr := (hour_iff h).1 hh
  refine ⟨hs, by omega, hh, fun i hi => ?_⟩
  obtain ⟨v, hv⟩ := lv_row (r := r) hi
  have := hf _ _ (hwr i hi).1 (hwr i hi).2 v hv
  exact ⟨this.1, this.2.1⟩

/-- An answer in memory. -/
def InA (lo : Nat) (w' : World) (l : List Ch) (h : Int) (r : List Rw) (e : Ending) : Prop := ∃ a n c out b, e = .returned (.tuple #[.agg #[.slice a n c], .bool b]) ∧ OwnS lo w' (.slice a n c) out ∧ InAns l h r out b

theorem ownS_form {lo : Nat} {w : World} {v : Value} {l : List Ch} (h : OwnS lo w v l) : ∃ a n c, v = .slice a n c := by
  rcases h with ⟨rfl, _⟩ | ⟨b, Bs, cap, rfl, _⟩
  · exact ⟨_, _, _, rfl⟩
  · exact ⟨_, _, _, rfl⟩

theorem IAns.inA {lo : Nat} {w' : World} {l : List Ch} {h : Int} {r : List Rw} {e : Ending} (ha : IAns lo w' l h r e) : InA lo w' l h r e := by
  rcases ha with ⟨h1, rfl⟩ | ⟨h1, n, ks, hk, rfl, hn, rfl⟩ | ⟨h1, ks, v', hk, hn, rfl, ho⟩
  · exact ⟨_, _, _, [], false, rfl, .inl ⟨rfl, rfl⟩, .inl ⟨fun h => h1 h.1, rfl, rfl⟩⟩
  · exact ⟨_, _, _, [], false, rfl, .inl ⟨rfl, rfl⟩, .inl ⟨fun h => by have := h.2 ks hk; omega, rfl, rfl⟩⟩
  · obtain ⟨a, n, c, rfl⟩ := ownS_form ho
    exact ⟨_, _, _, _, true, rfl, ho, .inr ⟨⟨h1, fun ks' hk' => by rw [instKeys_one hk' hk]; exact hn⟩, rfl, ks, hk, rfl⟩⟩

theorem ISAns.inA {lo : Nat} {w' : World} {l : List Ch} {h : Int} {r : List Rw} {e : Ending} (hw : WfCh l) (hwr : WfRw r) (ha : ISAns lo w' l h r e) : InA lo w' l h r e := by
  rcases ha with ⟨h1, rfl⟩ | ⟨h1, L, hP, hL⟩
  · exact ⟨_, _, _, [], false, rfl, .inl ⟨rfl, rfl⟩, .inl ⟨fun h => h1 (sargs_of_args hwr h.1), rfl, rfl⟩⟩
  · obtain ⟨hk, hLe⟩ := Puts.done h1.1 hw hwr hP
    have hsame := inst_same (h := h) hw hwr hk
    rw [← hLe] at hsame
    rcases hL with ⟨h2, rfl⟩ | ⟨h2, v', rfl, ho⟩
    · exact ⟨_, _, _, [], false, rfl, .inl ⟨rfl, rfl⟩, .inl ⟨fun h => h2 (hsame.2 ⟨h.1, h.2 _ hk⟩).2, rfl, rfl⟩⟩
    · obtain ⟨h3, h4⟩ := hsame.1 ⟨h1, h2⟩
      obtain ⟨a, n, c, rfl⟩ := ownS_form ho
      exact ⟨_, _, _, L, true, rfl, ho, .inr ⟨⟨h3, fun ks' hk' => by rw [instKeys_one hk' hk]; exact h4⟩, rfl, _, hk, hLe⟩⟩

end Go.Proofs.YtmecbppblbmchaaGreatDoor
