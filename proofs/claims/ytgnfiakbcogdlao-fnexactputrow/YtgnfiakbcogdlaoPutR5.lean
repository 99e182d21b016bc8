/- spec.l6putRow, spec.PutRow: written by genput4.py. -/
import Derived.Test.YtgnfiakbcogdlaoPutR4
namespace Go.Proofs.Ytgnfiakbcogdlao
open Go.ChangeShapes Go.WideShapes Go.ChangeAt Go.RowKit Go.Sort Go.Maps Go.Deep Go.Joins
set_option linter.unusedVariables false
set_option maxRecDepth 100000
attribute [local go_sem ↓] Go.wp_at_zero Go.wp_at_succ

theorem key_neq (a b c d : Int) (w : World) : (binOp .neq 29 (.agg #[.int .i64 a, .int .i64 b]) (.agg #[.int .i64 c, .int .i64 d])).run Try.prog w = .ok (.bool (!decide (a = c ∧ b = d))) w := by
  by_cases h1 : a = c
  · by_cases h2 : b = d
    · simp [go_sem, h1, h2]
    · simp [go_sem, h1, h2]
  · simp [go_sem, h1]

theorem drop_at {l : List Rw} {k : Nat} (h : k < l.length) : l.drop k = rAt l k :: l.drop (k + 1) := by
  rw [List.drop_eq_getElem_cons h, rAt_get h]

set_option maxHeartbeats 4000000 in
theorem l6putRow_any (va : Value) (l : List Rw) (t r v : Int) (w : World) {lo hi : Nat} (h : RowsAt lo hi w va l) (hn : l.length ≤ 1048576) (hhi : hi ≤ w.heap.size) :
    Calls Try.prog 38 #[va, .agg #[.int .i64 t, .int .i64 r], .int .i64 v] w fun e w' => ∃ v', e = .returned v' ∧ w'.ownsRow w.heap.size 74 3 v' (putGo ⟨t, r, v⟩ (v == 0) l).length (flat (putGo ⟨t, r, v⟩ (v == 0) l)) ∧ Below w.heap.size w w' := by
  obtain ⟨a, cap, rfl, hm, hc⟩ := h
  clear hm
  obtain ⟨ti, hI, hz0, hz1, hz2⟩ := info_parts infoRow
  have hA : Below w.heap.size w (w.alloc (Obj.cells #[Value.int IntKind.i64 t, Value.int IntKind.i64 r] 29)) := (Below.refl _ _).alloc (Nat.le_refl _) _
  have hkeq := key_neq
  have hbr := build_row
  go_enter Try.func38, Try.ntmps38
  go_wp2
  go_loopw [7, 8, 9] (fun x d i wr => ∃ (k : Nat) (dn : Bool) (out : List Rw), k ≤ l.length ∧ i = .int .i64 k ∧ d = .bool dn ∧ Hid (out ++ putGo ⟨t, r, v⟩ dn (l.drop k) = putGo ⟨t, r, v⟩ (v == 0) l) ∧ out.length ≤ 2 * k ∧ wr.ownsRow (w.heap.size + 1) 74 3 x out.length (flat out) ∧ Below w.heap.size w wr ∧ wr.cell? ⟨w.heap.size, 0, none⟩ = some (.int .i64 t) ∧ wr.cell? ⟨w.heap.size, 1, none⟩ = some (.int .i64 r)) (fun _ _ i _ => l.length - (intOf i).toNat)
  case atStart => exact ⟨0, _, [], Nat.zero_le _, rfl, rfl, (rfl : _ = _), Nat.le_refl _, World.ownsRow_nil _ _ _ _, hA, by simp, by simp⟩
  case round =>
    rename World => wo
    obtain ⟨k, dn, out, hk, rfl, rfl, hin, hol, hr_wo, hb_wo, x0_wo, x1_wo⟩ := hrel
    by_cases hlt : k < l.length
    · obtain ⟨b, off, rfl, hlo, hbi, hcc⟩ := hc (by omega)
      obtain ⟨c0, c1, c2⟩ := hcc k hlt
      have hbw : b < w.heap.size := by omega
      have c0_wo := cell_stays hb_wo c0
      have c1_wo := cell_stays hb_wo c1
      have c2_wo := cell_stays hb_wo c2
      have hz_wo := hb_wo.size
      have i0 : (0 : Int) ≤ (k : Int) := by omega
      have i1 : (k : Int) < (l.length : Int) := by omega
      rw [drop_at hlt] at hin
      clear hc hcc c0 c1 c2
      cases dn with
      | true =>
        have hin : Hid (out ++ (if (rAt l k).t = t ∧ (rAt l k).r = r then putGo ⟨t, r, v⟩ true (l.drop (k + 1)) else rAt l k :: putGo ⟨t, r, v⟩ true (l.drop (k + 1))) = putGo ⟨t, r, v⟩ (v == 0) l) := by
          show _ = _
          rw [← hin.out]
          conv => rhs; unfold putGo
          simp
        go_wp2_with fail
        have k0 := cell_regrown c0_wo
        have k1 := cell_regrown c1_wo
        have k2 := cell_regrown x0_wo
        have k3 := cell_regrown x1_wo
        refine wp_region_quiet_below (by kernel_rfl) (by kernel_rfl) ?_
        repeat (go_big_quiet_step (first | (go_at_call 70; exact Calls.regrown_of (specKeyLess_any _ _ _ _ _))))
        refine wpQuiet_nil ?_
        intro w6 hw2
        obtain ⟨⟨dq, osq⟩, hw3⟩ := hw2
        have hq2 : Below _ _ w6 := hw3 ▸ below_regrown _ dq osq
        clear hw3
        have hb_w6 := hb_wo.trans (hq2.mono hb_wo.size)
        have c0_w6 := cell_stays hq2 c0_wo
        have c1_w6 := cell_stays hq2 c1_wo
        have c2_w6 := cell_stays hq2 c2_wo
        have x0_w6 := cell_stays hq2 x0_wo
        have x1_w6 := cell_stays hq2 x1_wo
        have hr_w6 := ownsRow_below hr_wo hq2
        have hz_w6 := hb_w6.size
        clear hb_wo c0_wo c1_wo c2_wo x0_wo x1_wo hr_wo hz_wo
        clear k0 k1 k2 k3
        go_wp2_with fail
        by_cases he : (rAt l k).t = t ∧ (rAt l k).r = r
        · have he' : decide ((rAt l k).t = t ∧ (rAt l k).r = r) = true := by simpa using he
          have hin2 : Hid (out ++ putGo ⟨t, r, v⟩ true (l.drop (k + 1)) = putGo ⟨t, r, v⟩ (v == 0) l) := by
            show _ = _
            rw [← hin.out]; simp [he]
          clear hin he
          have k0 := cell_regrown c0_w6
          have k1 := cell_regrown c1_w6
          have k2 := cell_regrown x0_w6
          have k3 := cell_regrown x1_w6
          refine wp_region_quiet_below (by kernel_rfl) (by kernel_rfl) ?_
          repeat (go_big_quiet_step (first | (go_at_call 70; exact Calls.regrown_of (specKeyLess_any _ _ _ _ _))))
          refine wpQuiet_nil ?_
          intro w8 hw2
          obtain ⟨⟨dq, osq⟩, hw3⟩ := hw2
          have hq2 : Below _ _ w8 := hw3 ▸ below_regrown _ dq osq
          clear hw3
          have hb_w8 := hb_w6.trans (hq2.mono hb_w6.size)
          have c0_w8 := cell_stays hq2 c0_w6
          have c1_w8 := cell_stays hq2 c1_w6
          have c2_w8 := cell_stays hq2 c2_w6
          have x0_w8 := cell_stays hq2 x0_w6
          have x1_w8 := cell_stays hq2 x1_w6
          have hr_w8 := ownsRow_below hr_w6 hq2
          have hz_w8 := hb_w8.size
          clear hb_w6 c0_w6 c1_w6 c2_w6 x0_w6 x1_w6 hr_w6 hz_w6
          clear k0 k1 k2 k3
          go_wp2
          go_roundw
          case rel => exact ⟨k + 1, true, out, by omega, by go_num, rfl, hin2, by first | omega | (simp; omega), hr_w8, hb_w8, x0_w8, x1_w8⟩
          case measure => simp [intOf]; omega
        · have he' : decide ((rAt l k).t = t ∧ (rAt l k).r = r) = false := by simpa using he
          have hin2 : Hid ((out ++ [rAt l k]) ++ putGo ⟨t, r, v⟩ true (l.drop (k + 1)) = putGo ⟨t, r, v⟩ (v == 0) l) := by
            show _ = _
            rw [← hin.out]; simp [he]
          clear hin he
          have k0 := cell_regrown c0_w6
          have k1 := cell_regrown c1_w6
          have k2 := cell_regrown x0_w6
          have k3 := cell_regrown x1_w6
          refine wp_region_quiet_below (by kernel_rfl) (by kernel_rfl) ?_
          repeat (go_big_quiet_step (first | (go_at_call 70; exact Calls.regrown_of (specKeyLess_any _ _ _ _ _))))
          refine wpQuiet_nil ?_
          intro w8 hw2
          obtain ⟨⟨dq, osq⟩, hw3⟩ := hw2
          have hq2 : Below _ _ w8 := hw3 ▸ below_regrown _ dq osq
          clear hw3
          have hb_w8 := hb_w6.trans (hq2.mono hb_w6.size)
          have c0_w8 := cell_stays hq2 c0_w6
          have c1_w8 := cell_stays hq2 c1_w6
          have c2_w8 := cell_stays hq2 c2_w6
          have x0_w8 := cell_stays hq2 x0_w6
          have x1_w8 := cell_stays hq2 x1_w6
          have hr_w8 := ownsRow_below hr_w6 hq2
          have hz_w8 := hb_w8.size
          clear hb_w6 c0_w6 c1_w6 c2_w6 x0_w6 x1_w6 hr_w6 hz_w6
          clear k0 k1 k2 k3
          go_wp2_with (at_builtin; refine wpList_append_lies _ rfl _ _ 26 rfl (w.heap.size + 1) 74 ti _ 3 24 Try.underlying26 hI hz0 hz1 hz2 rfl (by decide) _ out.length (flat out) rfl (hr_w8.alloc _) ⟨w8.heap.size, 0, none⟩ 1 1 (cells3 (rAt l k)) rfl rfl (news3a _ _ _ _ _) (news3_one _ _ _) (by omega) (by unfold maxLen; omega) (by omega) (by simp; omega) (w8.heap.size + 1) (by simp) ?_; intro g_w9 cap_w9 w9 ho_w9 hg_w9 ha_w9 hl_w9)
          have gb_w9 : w8.grownBy w9 (Value.ownBlock _) := gb_tr' (World.grownBy_alloc _ _ _) hg_w9
          have hzb_w9 : w.heap.size < w8.heap.size := cell_lt x0_w8
          have hob_w9 := fun j hj => hr_w8.lt j hj
          have bw_w9 : Below (w.heap.size + 1) w8 w9 := ⟨gb_w9.os, gb_w9.tape, gb_w9.output, gb_w9.size, fun j hj => gb_w9.block j (by omega) (fun e => by have := (hob_w9 j e.symm).1; omega)⟩
          have hb_w9 := hb_w8.trans (bw_w9.mono (by omega))
          have c0_w9 : w9.cell? ⟨b, off + k * 3, none⟩ = some (.int .i64 (rAt l k).t) := by rw [bw_w9.cell (by show b < _; omega)]; exact c0_w8
          have c1_w9 : w9.cell? ⟨b, off + k * 3 + 1, none⟩ = some (.int .i64 (rAt l k).r) := by rw [bw_w9.cell (by show b < _; omega)]; exact c1_w8
          have c2_w9 : w9.cell? ⟨b, off + k * 3 + 2, none⟩ = some (.int .i64 (rAt l k).v) := by rw [bw_w9.cell (by show b < _; omega)]; exact c2_w8
          have x0_w9 : w9.cell? ⟨w.heap.size, 0, none⟩ = some (.int .i64 t) := by rw [bw_w9.cell (by simp)]; exact x0_w8
          have x1_w9 : w9.cell? ⟨w.heap.size, 1, none⟩ = some (.int .i64 r) := by rw [bw_w9.cell (by simp)]; exact x1_w8
          have hr_w9 : w9.ownsRow (w.heap.size + 1) 74 3 (.slice (some ⟨g_w9, 0, none⟩) (out.length + 1) cap_w9) (out ++ [(rAt l k)]).length (flat (out ++ [(rAt l k)])) := by rw [flat_snoc]; simpa using ho_w9
          have hz_w9 := hb_w9.size
          clear gb_w9 hob_w9 bw_w9 ho_w9 hg_w9 ha_w9 hb_w8 c0_w8 c1_w8 c2_w8 x0_w8 x1_w8 hr_w8 hz_w8
          go_roundw
          case rel => exact ⟨k + 1, true, out ++ [rAt l k], by omega, by go_num, rfl, hin2, by first | omega | (simp; omega), (by first | exact hr_w9 | (rw [hOl] at hr_w9; exact hr_w9)), hb_w9, x0_w9, x1_w9⟩
          case measure => simp [intOf]; omega
      | false =>
        by_cases hk2 : klB (rAt l k).t (rAt l k).r t r = true
        · have hin : Hid (out ++ (if (rAt l k).t = t ∧ (rAt l k).r = r then putGo ⟨t, r, v⟩ false (l.drop (k + 1)) else rAt l k :: putGo ⟨t, r, v⟩ false (l.drop (k + 1))) = putGo ⟨t, r, v⟩ (v == 0) l) := by
            show _ = _
            rw [← hin.out]
            conv => rhs; unfold putGo
            simp [hk2]
          go_wp2_with fail
          have k0 := cell_regrown c0_wo
          have k1 := cell_regrown c1_wo
          have k2 := cell_regrown x0_wo
          have k3 := cell_regrown x1_wo
          refine wp_region_quiet_below (by kernel_rfl) (by kernel_rfl) ?_
          repeat (go_big_quiet_step (first | (go_at_call 70; exact Calls.regrown_of (specKeyLess_any _ _ _ _ _))))
          refine wpQuiet_nil ?_
          intro w6 hw2
          obtain ⟨⟨dq, osq⟩, hw3⟩ := hw2
          have hq2 : Below _ _ w6 := hw3 ▸ below_regrown _ dq osq
          clear hw3
          have hb_w6 := hb_wo.trans (hq2.mono hb_wo.size)
          have c0_w6 := cell_stays hq2 c0_wo
          have c1_w6 := cell_stays hq2 c1_wo
          have c2_w6 := cell_stays hq2 c2_wo
          have x0_w6 := cell_stays hq2 x0_wo
          have x1_w6 := cell_stays hq2 x1_wo
          have hr_w6 := ownsRow_below hr_wo hq2
          have hz_w6 := hb_w6.size
          clear hb_wo c0_wo c1_wo c2_wo x0_wo x1_wo hr_wo hz_wo
          clear k0 k1 k2 k3 hk2
          go_wp2_with fail
          by_cases he : (rAt l k).t = t ∧ (rAt l k).r = r
          · have he' : decide ((rAt l k).t = t ∧ (rAt l k).r = r) = true := by simpa using he
            have hin2 : Hid (out ++ putGo ⟨t, r, v⟩ false (l.drop (k + 1)) = putGo ⟨t, r, v⟩ (v == 0) l) := by
              show _ = _
              rw [← hin.out]; simp [he]
            clear hin he
            have k0 := cell_regrown c0_w6
            have k1 := cell_regrown c1_w6
            have k2 := cell_regrown x0_w6
            have k3 := cell_regrown x1_w6
            refine wp_region_quiet_below (by kernel_rfl) (by kernel_rfl) ?_
            repeat (go_big_quiet_step (first | (go_at_call 70; exact Calls.regrown_of (specKeyLess_any _ _ _ _ _))))
            refine wpQuiet_nil ?_
            intro w8 hw2
            obtain ⟨⟨dq, osq⟩, hw3⟩ := hw2
            have hq2 : Below _ _ w8 := hw3 ▸ below_regrown _ dq osq
            clear hw3
            have hb_w8 := hb_w6.trans (hq2.mono hb_w6.size)
            have c0_w8 := cell_stays hq2 c0_w6
            have c1_w8 := cell_stays hq2 c1_w6
            have c2_w8 := cell_stays hq2 c2_w6
            have x0_w8 := cell_stays hq2 x0_w6
            have x1_w8 := cell_stays hq2 x1_w6
            have hr_w8 := ownsRow_below hr_w6 hq2
            have hz_w8 := hb_w8.size
            clear hb_w6 c0_w6 c1_w6 c2_w6 x0_w6 x1_w6 hr_w6 hz_w6
            clear k0 k1 k2 k3
            go_wp2
            go_roundw
            case rel => exact ⟨k + 1, false, out, by omega, by go_num, rfl, hin2, by first | omega | (simp; omega), hr_w8, hb_w8, x0_w8, x1_w8⟩
            case measure => simp [intOf]; omega
          · have he' : decide ((rAt l k).t = t ∧ (rAt l k).r = r) = false := by simpa using he
            have hin2 : Hid ((out ++ [rAt l k]) ++ putGo ⟨t, r, v⟩ false (l.drop (k + 1)) = putGo ⟨t, r, v⟩ (v == 0) l) := by
              show _ = _
              rw [← hin.out]; simp [he]
            clear hin he
            have k0 := cell_regrown c0_w6
            have k1 := cell_regrown c1_w6
            have k2 := cell_regrown x0_w6
            have k3 := cell_regrown x1_w6
            refine wp_region_quiet_below (by kernel_rfl) (by kernel_rfl) ?_
            repeat (go_big_quiet_step (first | (go_at_call 70; exact Calls.regrown_of (specKeyLess_any _ _ _ _ _))))
            refine wpQuiet_nil ?_
            intro w8 hw2
            obtain ⟨⟨dq, osq⟩, hw3⟩ := hw2
            have hq2 : Below _ _ w8 := hw3 ▸ below_regrown _ dq osq
            clear hw3
            have hb_w8 := hb_w6.trans (hq2.mono hb_w6.size)
            have c0_w8 := cell_stays hq2 c0_w6
            have c1_w8 := cell_stays hq2 c1_w6
            have c2_w8 := cell_stays hq2 c2_w6
            have x0_w8 := cell_stays hq2 x0_w6
            have x1_w8 := cell_stays hq2 x1_w6
            have hr_w8 := ownsRow_below hr_w6 hq2
            have hz_w8 := hb_w8.size
            clear hb_w6 c0_w6 c1_w6 c2_w6 x0_w6 x1_w6 hr_w6 hz_w6
            clear k0 k1 k2 k3
            go_wp2_with (at_builtin; refine wpList_append_lies _ rfl _ _ 26 rfl (w.heap.size + 1) 74 ti _ 3 24 Try.underlying26 hI hz0 hz1 hz2 rfl (by decide) _ out.length (flat out) rfl (hr_w8.alloc _) ⟨w8.heap.size, 0, none⟩ 1 1 (cells3 (rAt l k)) rfl rfl (news3a _ _ _ _ _) (news3_one _ _ _) (by omega) (by unfold maxLen; omega) (by omega) (by simp; omega) (w8.heap.size + 1) (by simp) ?_; intro g_w9 cap_w9 w9 ho_w9 hg_w9 ha_w9 hl_w9)
            have gb_w9 : w8.grownBy w9 (Value.ownBlock _) := gb_tr' (World.grownBy_alloc _ _ _) hg_w9
            have hzb_w9 : w.heap.size < w8.heap.size := cell_lt x0_w8
            have hob_w9 := fun j hj => hr_w8.lt j hj
            have bw_w9 : Below (w.heap.size + 1) w8 w9 := ⟨gb_w9.os, gb_w9.tape, gb_w9.output, gb_w9.size, fun j hj => gb_w9.block j (by omega) (fun e => by have := (hob_w9 j e.symm).1; omega)⟩
            have hb_w9 := hb_w8.trans (bw_w9.mono (by omega))
            have c0_w9 : w9.cell? ⟨b, off + k * 3, none⟩ = some (.int .i64 (rAt l k).t) := by rw [bw_w9.cell (by show b < _; omega)]; exact c0_w8
            have c1_w9 : w9.cell? ⟨b, off + k * 3 + 1, none⟩ = some (.int .i64 (rAt l k).r) := by rw [bw_w9.cell (by show b < _; omega)]; exact c1_w8
            have c2_w9 : w9.cell? ⟨b, off + k * 3 + 2, none⟩ = some (.int .i64 (rAt l k).v) := by rw [bw_w9.cell (by show b < _; omega)]; exact c2_w8
            have x0_w9 : w9.cell? ⟨w.heap.size, 0, none⟩ = some (.int .i64 t) := by rw [bw_w9.cell (by simp)]; exact x0_w8
            have x1_w9 : w9.cell? ⟨w.heap.size, 1, none⟩ = some (.int .i64 r) := by rw [bw_w9.cell (by simp)]; exact x1_w8
            have hr_w9 : w9.ownsRow (w.heap.size + 1) 74 3 (.slice (some ⟨g_w9, 0, none⟩) (out.length + 1) cap_w9) (out ++ [(rAt l k)]).length (flat (out ++ [(rAt l k)])) := by rw [flat_snoc]; simpa using ho_w9
            have hz_w9 := hb_w9.size
            clear gb_w9 hob_w9 bw_w9 ho_w9 hg_w9 ha_w9 hb_w8 c0_w8 c1_w8 c2_w8 x0_w8 x1_w8 hr_w8 hz_w8
            go_roundw
            case rel => exact ⟨k + 1, false, out ++ [rAt l k], by omega, by go_num, rfl, hin2, by first | omega | (simp; omega), (by first | exact hr_w9 | (rw [hOl] at hr_w9; exact hr_w9)), hb_w9, x0_w9, x1_w9⟩
            case measure => simp [intOf]; omega
        · have hk2' : klB (rAt l k).t (rAt l k).r t r = false := by simpa using hk2
          have hin : Hid ((out ++ [⟨t, r, v⟩]) ++ (if (rAt l k).t = t ∧ (rAt l k).r = r then putGo ⟨t, r, v⟩ true (l.drop (k + 1)) else rAt l k :: putGo ⟨t, r, v⟩ true (l.drop (k + 1))) = putGo ⟨t, r, v⟩ (v == 0) l) := by
            show _ = _
            rw [← hin.out]
            conv => rhs; unfold putGo
            simp [hk2']
          clear hk2
          go_wp2_with fail
          have k0 := cell_regrown c0_wo
          have k1 := cell_regrown c1_wo
          have k2 := cell_regrown x0_wo
          have k3 := cell_regrown x1_wo
          refine wp_region_quiet_below (by kernel_rfl) (by kernel_rfl) ?_
          repeat (go_big_quiet_step (first | (go_at_call 70; exact Calls.regrown_of (specKeyLess_any _ _ _ _ _))))
          refine wpQuiet_nil ?_
          intro w6 hw2
          obtain ⟨⟨dq, osq⟩, hw3⟩ := hw2
          have hq2 : Below _ _ w6 := hw3 ▸ below_regrown _ dq osq
          clear hw3
          have hb_w6 := hb_wo.trans (hq2.mono hb_wo.size)
          have c0_w6 := cell_stays hq2 c0_wo
          have c1_w6 := cell_stays hq2 c1_wo
          have c2_w6 := cell_stays hq2 c2_wo
          have x0_w6 := cell_stays hq2 x0_wo
          have x1_w6 := cell_stays hq2 x1_wo
          have hr_w6 := ownsRow_below hr_wo hq2
          have hz_w6 := hb_w6.size
          clear hb_wo c0_wo c1_wo c2_wo x0_wo x1_wo hr_wo hz_wo
          clear k0 k1 k2 k3 hk2'
          go_wp2_with (at_builtin; refine wpList_append_lies _ rfl _ _ 26 rfl (w.heap.size + 1) 74 ti _ 3 24 Try.underlying26 hI hz0 hz1 hz2 rfl (by decide) _ out.length (flat out) rfl (hr_w6.alloc _) ⟨w6.heap.size, 0, none⟩ 1 1 (cells3 (⟨t, r, v⟩ : Rw)) rfl rfl (news3a _ _ _ _ _) (news3_one _ _ _) (by omega) (by unfold maxLen; omega) (by omega) (by simp; omega) (w6.heap.size + 1) (by simp) ?_; intro g_w7 cap_w7 w7 ho_w7 hg_w7 ha_w7 hl_w7)
          have gb_w7 : w6.grownBy w7 (Value.ownBlock _) := gb_tr' (World.grownBy_alloc _ _ _) hg_w7
          have hzb_w7 : w.heap.size < w6.heap.size := cell_lt x0_w6
          have hob_w7 := fun j hj => hr_w6.lt j hj
          have bw_w7 : Below (w.heap.size + 1) w6 w7 := ⟨gb_w7.os, gb_w7.tape, gb_w7.output, gb_w7.size, fun j hj => gb_w7.block j (by omega) (fun e => by have := (hob_w7 j e.symm).1; omega)⟩
          have hb_w7 := hb_w6.trans (bw_w7.mono (by omega))
          have c0_w7 : w7.cell? ⟨b, off + k * 3, none⟩ = some (.int .i64 (rAt l k).t) := by rw [bw_w7.cell (by show b < _; omega)]; exact c0_w6
          have c1_w7 : w7.cell? ⟨b, off + k * 3 + 1, none⟩ = some (.int .i64 (rAt l k).r) := by rw [bw_w7.cell (by show b < _; omega)]; exact c1_w6
          have c2_w7 : w7.cell? ⟨b, off + k * 3 + 2, none⟩ = some (.int .i64 (rAt l k).v) := by rw [bw_w7.cell (by show b < _; omega)]; exact c2_w6
          have x0_w7 : w7.cell? ⟨w.heap.size, 0, none⟩ = some (.int .i64 t) := by rw [bw_w7.cell (by simp)]; exact x0_w6
          have x1_w7 : w7.cell? ⟨w.heap.size, 1, none⟩ = some (.int .i64 r) := by rw [bw_w7.cell (by simp)]; exact x1_w6
          have hr_w7 : w7.ownsRow (w.heap.size + 1) 74 3 (.slice (some ⟨g_w7, 0, none⟩) (out.length + 1) cap_w7) (out ++ [(⟨t, r, v⟩ : Rw)]).length (flat (out ++ [(⟨t, r, v⟩ : Rw)])) := by rw [flat_snoc]; simpa using ho_w7
          have hz_w7 := hb_w7.size
          clear gb_w7 hob_w7 bw_w7 ho_w7 hg_w7 ha_w7 hb_w6 c0_w6 c1_w6 c2_w6 x0_w6 x1_w6 hr_w6 hz_w6
          obtain ⟨O, hO⟩ : ∃ O, O = out ++ [(⟨t, r, v⟩ : Rw)] := ⟨_, rfl⟩
          have hOl : O.length = out.length + 1 := by simp [hO]
          rw [← hO] at hr_w7 hin
          clear hO
          by_cases he : (rAt l k).t = t ∧ (rAt l k).r = r
          · have he' : decide ((rAt l k).t = t ∧ (rAt l k).r = r) = true := by simpa using he
            have hin2 : Hid (O ++ putGo ⟨t, r, v⟩ true (l.drop (k + 1)) = putGo ⟨t, r, v⟩ (v == 0) l) := by
              show _ = _
              rw [← hin.out]; simp [he]
            clear hin he
            have k0 := cell_regrown c0_w7
            have k1 := cell_regrown c1_w7
            have k2 := cell_regrown x0_w7
            have k3 := cell_regrown x1_w7
            refine wp_region_quiet_below (by kernel_rfl) (by kernel_rfl) ?_
            repeat (go_big_quiet_step (first | (go_at_call 70; exact Calls.regrown_of (specKeyLess_any _ _ _ _ _))))
            refine wpQuiet_nil ?_
            intro w8 hw2
            obtain ⟨⟨dq, osq⟩, hw3⟩ := hw2
            have hq2 : Below _ _ w8 := hw3 ▸ below_regrown _ dq osq
            clear hw3
            have hb_w8 := hb_w7.trans (hq2.mono hb_w7.size)
            have c0_w8 := cell_stays hq2 c0_w7
            have c1_w8 := cell_stays hq2 c1_w7
            have c2_w8 := cell_stays hq2 c2_w7
            have x0_w8 := cell_stays hq2 x0_w7
            have x1_w8 := cell_stays hq2 x1_w7
            have hr_w8 := ownsRow_below hr_w7 hq2
            have hz_w8 := hb_w8.size
            clear hb_w7 c0_w7 c1_w7 c2_w7 x0_w7 x1_w7 hr_w7 hz_w7
            clear k0 k1 k2 k3
            go_wp2
            go_roundw
            case rel => exact ⟨k + 1, true, O, by omega, by go_num, rfl, hin2, by first | omega | (simp; omega), hr_w8, hb_w8, x0_w8, x1_w8⟩
            case measure => simp [intOf]; omega
          · have he' : decide ((rAt l k).t = t ∧ (rAt l k).r = r) = false := by simpa using he
            have hin2 : Hid ((O ++ [rAt l k]) ++ putGo ⟨t, r, v⟩ true (l.drop (k + 1)) = putGo ⟨t, r, v⟩ (v == 0) l) := by
              show _ = _
              rw [← hin.out]; simp [he]
            clear hin he
            have k0 := cell_regrown c0_w7
            have k1 := cell_regrown c1_w7
            have k2 := cell_regrown x0_w7
            have k3 := cell_regrown x1_w7
            refine wp_region_quiet_below (by kernel_rfl) (by kernel_rfl) ?_
            repeat (go_big_quiet_step (first | (go_at_call 70; exact Calls.regrown_of (specKeyLess_any _ _ _ _ _))))
            refine wpQuiet_nil ?_
            intro w8 hw2
            obtain ⟨⟨dq, osq⟩, hw3⟩ := hw2
            have hq2 : Below _ _ w8 := hw3 ▸ below_regrown _ dq osq
            clear hw3
            have hb_w8 := hb_w7.trans (hq2.mono hb_w7.size)
            have c0_w8 := cell_stays hq2 c0_w7
            have c1_w8 := cell_stays hq2 c1_w7
            have c2_w8 := cell_stays hq2 c2_w7
            have x0_w8 := cell_stays hq2 x0_w7
            have x1_w8 := cell_stays hq2 x1_w7
            have hr_w8 := ownsRow_below hr_w7 hq2
            have hz_w8 := hb_w8.size
            clear hb_w7 c0_w7 c1_w7 c2_w7 x0_w7 x1_w7 hr_w7 hz_w7
            clear k0 k1 k2 k3
            go_wp2_with (at_builtin; refine wpList_append_lies _ rfl _ _ 26 rfl (w.heap.size + 1) 74 ti _ 3 24 Try.underlying26 hI hz0 hz1 hz2 rfl (by decide) _ O.length (flat O) rfl (hr_w8.alloc _) ⟨w8.heap.size, 0, none⟩ 1 1 (cells3 (rAt l k)) rfl rfl (news3a _ _ _ _ _) (news3_one _ _ _) (by omega) (by unfold maxLen; omega) (by omega) (by simp; omega) (w8.heap.size + 1) (by simp) ?_; intro g_w9 cap_w9 w9 ho_w9 hg_w9 ha_w9 hl_w9)
            have gb_w9 : w8.grownBy w9 (Value.ownBlock _) := gb_tr' (World.grownBy_alloc _ _ _) hg_w9
            have hzb_w9 : w.heap.size < w8.heap.size := cell_lt x0_w8
            have hob_w9 := fun j hj => hr_w8.lt j hj
            have bw_w9 : Below (w.heap.size + 1) w8 w9 := ⟨gb_w9.os, gb_w9.tape, gb_w9.output, gb_w9.size, fun j hj => gb_w9.block j (by omega) (fun e => by have := (hob_w9 j e.symm).1; omega)⟩
            have hb_w9 := hb_w8.trans (bw_w9.mono (by omega))
            have c0_w9 : w9.cell? ⟨b, off + k * 3, none⟩ = some (.int .i64 (rAt l k).t) := by rw [bw_w9.cell (by show b < _; omega)]; exact c0_w8
            have c1_w9 : w9.cell? ⟨b, off + k * 3 + 1, none⟩ = some (.int .i64 (rAt l k).r) := by rw [bw_w9.cell (by show b < _; omega)]; exact c1_w8
            have c2_w9 : w9.cell? ⟨b, off + k * 3 + 2, none⟩ = some (.int .i64 (rAt l k).v) := by rw [bw_w9.cell (by show b < _; omega)]; exact c2_w8
            have x0_w9 : w9.cell? ⟨w.heap.size, 0, none⟩ = some (.int .i64 t) := by rw [bw_w9.cell (by simp)]; exact x0_w8
            have x1_w9 : w9.cell? ⟨w.heap.size, 1, none⟩ = some (.int .i64 r) := by rw [bw_w9.cell (by simp)]; exact x1_w8
            have hr_w9 : w9.ownsRow (w.heap.size + 1) 74 3 (.slice (some ⟨g_w9, 0, none⟩) (O.length + 1) cap_w9) (O ++ [(rAt l k)]).length (flat (O ++ [(rAt l k)])) := by rw [flat_snoc]; simpa using ho_w9
            have hz_w9 := hb_w9.size
            clear gb_w9 hob_w9 bw_w9 ho_w9 hg_w9 ha_w9 hb_w8 c0_w8 c1_w8 c2_w8 x0_w8 x1_w8 hr_w8 hz_w8
            go_roundw
            case rel => exact ⟨k + 1, true, O ++ [rAt l k], by omega, by go_num, rfl, hin2, by first | omega | (simp; omega), (by first | exact hr_w9 | (rw [hOl] at hr_w9; exact hr_w9)), hb_w9, x0_w9, x1_w9⟩
            case measure => simp [intOf]; omega
    · obtain rfl : k = l.length := by omega
      rw [List.drop_length] at hin
      cases dn with
      | true =>
        have e : out = putGo ⟨t, r, v⟩ (v == 0) l := by rw [← hin.out]; simp [putGo]
        rw [e] at hr_wo
        clear hin hc
        go_wp2
        go_ret
        exact ⟨_, rfl, hr_wo.mono (by omega), hb_wo⟩
      | false =>
        have e : out ++ [⟨t, r, v⟩] = putGo ⟨t, r, v⟩ (v == 0) l := by rw [← hin.out]; simp [putGo]
        have hz_wo := hb_wo.size
        clear hin hc
        go_wp2_with (at_builtin; refine wpList_append_lies _ rfl _ _ 26 rfl (w.heap.size + 1) 74 ti _ 3 24 Try.underlying26 hI hz0 hz1 hz2 rfl (by decide) _ out.length (flat out) rfl (hr_wo.alloc _) ⟨wo.heap.size, 0, none⟩ 1 1 (cells3 (⟨t, r, v⟩ : Rw)) rfl rfl (news3a _ _ _ _ _) (news3_one _ _ _) (by omega) (by unfold maxLen; omega) (by omega) (by simp; omega) (wo.heap.size + 1) (by simp) ?_; intro g_w7 cap_w7 w7 ho_w7 hg_w7 ha_w7 hl_w7)
        have gb7 : wo.grownBy w7 (Value.ownBlock _) := gb_tr' (World.grownBy_alloc _ _ _) hg_w7
        go_ret
        refine ⟨_, rfl, ?_, ?_⟩
        · rw [← e, flat_snoc]
          have := ho_w7.mono (base' := w.heap.size) (by omega)
          simpa using this
        · exact hb_wo.trans ⟨gb7.os, gb7.tape, gb7.output, gb7.size, fun j hj => gb7.block j (by omega) (fun e => by have := (hr_wo.lt j e.symm).1; omega)⟩

end Go.Proofs.Ytgnfiakbcogdlao
