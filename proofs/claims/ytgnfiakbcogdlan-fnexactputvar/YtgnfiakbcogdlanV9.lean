/- spec.l6put, spec.PutVar: written by genput9.py. -/
import Derived.Test.YtgnfiakbcogdlanV8
namespace Go.Proofs.Ytgnfiakbcogdlan
open Go.ChangeShapes Go.WideShapes Go.ChangeAt Go.RowKit Go.Maps Go.Deep Go.Joins Go.Sort Go.Shelf
set_option linter.unusedVariables false
set_option maxRecDepth 100000
attribute [local go_sem ↓] Go.wp_at_zero Go.wp_at_succ

set_option maxHeartbeats 4000000 in
theorem l6put_any (va : Value) (l : List Va) (s : ByteArray) (v : Int) (w : World) {lo hi : Nat} (h : VarsAt lo hi w va l) (hn : l.length ≤ 1048576) (hhi : hi ≤ w.heap.size) :
    Calls Try.prog 46 #[va, .string s, .int .i64 v] w fun e w' => ∃ v', e = .returned v' ∧ w'.ownsRow w.heap.size 79 2 v' (putV (s, v) false l).length (flatV (putV (s, v) false l)) ∧ Below w.heap.size w w' := by
  obtain ⟨a, cap, rfl, hm, hc⟩ := h
  clear hm
  obtain ⟨ti, hI, hz0, hz1, hz2⟩ := info_parts infoVar
  have hbv := build_var
  go_enter Try.func46, Try.ntmps46
  go_wp2
  go_loopw [7, 8, 9] (fun x d i wr => ∃ (k : Nat) (dn : Bool) (out : List Va), k ≤ l.length ∧ i = .int .i64 k ∧ d = .bool dn ∧ Hid (out ++ putV (s, v) dn (l.drop k) = putV (s, v) false l) ∧ out.length ≤ 2 * k ∧ wr.ownsRow w.heap.size 79 2 x out.length (flatV out) ∧ Below w.heap.size w wr) (fun _ _ i _ => l.length - (intOf i).toNat)
  case atStart => exact ⟨0, _, [], Nat.zero_le _, rfl, rfl, (rfl : _ = _), Nat.le_refl _, World.ownsRow_nil _ _ _ _, Below.refl _ _⟩
  case round =>
    rename World => wo
    obtain ⟨k, dn, out, hk, rfl, rfl, hin, hol, hr_wo, hb_wo⟩ := hrel
    by_cases hlt : k < l.length
    · obtain ⟨b, off, rfl, hlo, hbi, hcc⟩ := hc (by omega)
      obtain ⟨c0, c1⟩ := hcc k hlt
      have hbw : b < w.heap.size := by omega
      have c0_wo := cell_stays hb_wo c0
      have c1_wo := cell_stays hb_wo c1
      have hz_wo := hb_wo.size
      have i0 : (0 : Int) ≤ (k : Int) := by omega
      have i1 : (k : Int) < (l.length : Int) := by omega
      rw [vdrop_at hlt] at hin
      clear hc hcc c0 c1
      cases dn with
      | true =>
        have hin : Hid (out ++ (if (vaAt l k).1 = s then putV (s, v) true (l.drop (k + 1)) else vaAt l k :: putV (s, v) true (l.drop (k + 1))) = putV (s, v) false l) := by
          show _ = _
          rw [← hin.out]
          conv => rhs; unfold putV
          simp
        by_cases he : (vaAt l k).1 = s
        · have he' : ((vaAt l k).1.toList == s.toList) = true := by rw [he]; simp
          have hin2 : Hid (out ++ putV (s, v) true (l.drop (k + 1)) = putV (s, v) false l) := by
            show _ = _
            rw [← hin.out]; simp [he]
          clear hin he
          go_wp2
          go_roundw
          case rel => exact ⟨k + 1, true, out, by omega, by go_num, rfl, hin2, by first | omega | (simp; omega), hr_wo, hb_wo⟩
          case measure => simp [intOf]; omega
        · have he' : ((vaAt l k).1.toList == s.toList) = false := by rw [beq_eq_false_iff_ne]; exact fun e => he (eqS_iff.1 e)
          have hin2 : Hid ((out ++ [vaAt l k]) ++ putV (s, v) true (l.drop (k + 1)) = putV (s, v) false l) := by
            show _ = _
            rw [← hin.out]; simp [he]
          clear hin he
          go_wp2_with (first | (at_builtin; refine wpList_append_lies _ rfl _ _ 38 rfl w.heap.size 79 ti _ 2 24 Try.underlying38 hI hz0 hz1 hz2 rfl (by decide) _ out.length (flatV out) rfl (hr_wo.alloc _) ⟨wo.heap.size, 0, none⟩ 1 1 (cellsV (vaAt l k)) rfl rfl (newsV _ _ _ _) (newsV_one _ _) (by omega) (by unfold maxLen; omega) (by omega) (by simp; omega) (wo.heap.size + 1) (by simp) ?_; intro g_w9 cap_w9 w9 ho_w9 hg_w9 ha_w9 hl_w9; have gb_w9 : wo.grownBy w9 (Value.ownBlock _) := gb_trV (World.grownBy_alloc _ _ _) hg_w9; have hob_w9 := fun j hj => hr_wo.lt j hj; have bw_w9 : Below w.heap.size wo w9 := ⟨gb_w9.os, gb_w9.tape, gb_w9.output, gb_w9.size, fun j hj => gb_w9.block j (by omega) (fun e => by have := (hob_w9 j e.symm).1; omega)⟩; have hb_w9 := hb_wo.trans bw_w9; have c0_w9 : w9.cell? ⟨b, off + k * 2, none⟩ = some (.string (vaAt l k).1) := by { rw [bw_w9.cell (by show b < _; omega)]; exact c0_wo }; have c1_w9 : w9.cell? ⟨b, off + k * 2 + 1, none⟩ = some (.int .i64 (vaAt l k).2) := by { rw [bw_w9.cell (by show b < _; omega)]; exact c1_wo }; have hr_w9 : w9.ownsRow w.heap.size 79 2 (.slice (some ⟨g_w9, 0, none⟩) (out.length + 1) cap_w9) (out ++ [(vaAt l k)]).length (flatV (out ++ [(vaAt l k)])) := by { rw [flatV_snoc]; simpa using ho_w9 }; have hz_w9 := hb_w9.size; clear gb_w9 hob_w9 bw_w9 ho_w9 hg_w9 ha_w9))
          go_roundw
          case rel => exact ⟨k + 1, true, out ++ [vaAt l k], by omega, by go_num, rfl, hin2, by first | omega | (simp; omega), (by first | exact hr_w9 | (rw [hOl] at hr_w9; exact hr_w9)), hb_w9⟩
          case measure => simp [intOf]; omega
      | false =>
        by_cases hk2 : leS s (vaAt l k).1 = true
        · have hle : (Op.bytesLess s.toList (vaAt l k).1.toList || s.toList == (vaAt l k).1.toList) = true := hk2
          have hin : Hid ((out ++ [(s, v)]) ++ (if (vaAt l k).1 = s then putV (s, v) true (l.drop (k + 1)) else vaAt l k :: putV (s, v) true (l.drop (k + 1))) = putV (s, v) false l) := by
            show _ = _
            rw [← hin.out]
            conv => rhs; unfold putV
            simp [hk2]
          clear hk2
          obtain ⟨O, hO⟩ : ∃ O : List Va, O = out ++ [((s, v) : Va)] := ⟨_, rfl⟩
          have hOl : O.length = out.length + 1 := by simp [hO]
          rw [← hO] at hin
          by_cases he : (vaAt l k).1 = s
          · have he' : ((vaAt l k).1.toList == s.toList) = true := by rw [he]; simp
            have hin2 : Hid (O ++ putV (s, v) true (l.drop (k + 1)) = putV (s, v) false l) := by
              show _ = _
              rw [← hin.out]; simp [he]
            clear hin he
            go_wp2_with (first | (at_builtin; refine wpList_append_lies _ rfl _ _ 38 rfl w.heap.size 79 ti _ 2 24 Try.underlying38 hI hz0 hz1 hz2 rfl (by decide) _ out.length (flatV out) rfl (hr_wo.alloc _) ⟨wo.heap.size, 0, none⟩ 1 1 (cellsV ((s, v) : Va)) rfl rfl (newsV _ _ _ _) (newsV_one _ _) (by omega) (by unfold maxLen; omega) (by omega) (by simp; omega) (wo.heap.size + 1) (by simp) ?_; intro g_w7 cap_w7 w7 ho_w7 hg_w7 ha_w7 hl_w7; have gb_w7 : wo.grownBy w7 (Value.ownBlock _) := gb_trV (World.grownBy_alloc _ _ _) hg_w7; have hob_w7 := fun j hj => hr_wo.lt j hj; have bw_w7 : Below w.heap.size wo w7 := ⟨gb_w7.os, gb_w7.tape, gb_w7.output, gb_w7.size, fun j hj => gb_w7.block j (by omega) (fun e => by have := (hob_w7 j e.symm).1; omega)⟩; have hb_w7 := hb_wo.trans bw_w7; have c0_w7 : w7.cell? ⟨b, off + k * 2, none⟩ = some (.string (vaAt l k).1) := by { rw [bw_w7.cell (by show b < _; omega)]; exact c0_wo }; have c1_w7 : w7.cell? ⟨b, off + k * 2 + 1, none⟩ = some (.int .i64 (vaAt l k).2) := by { rw [bw_w7.cell (by show b < _; omega)]; exact c1_wo }; have hr_w7 : w7.ownsRow w.heap.size 79 2 (.slice (some ⟨g_w7, 0, none⟩) (out.length + 1) cap_w7) (out ++ [((s, v) : Va)]).length (flatV (out ++ [((s, v) : Va)])) := by { rw [flatV_snoc]; simpa using ho_w7 }; have hz_w7 := hb_w7.size; clear gb_w7 hob_w7 bw_w7 ho_w7 hg_w7 ha_w7; rw [← hO] at hr_w7))
            go_roundw
            case rel => exact ⟨k + 1, true, O, by omega, by go_num, rfl, hin2, by first | omega | (simp; omega), hr_w7, hb_w7⟩
            case measure => simp [intOf]; omega
          · have he' : ((vaAt l k).1.toList == s.toList) = false := by rw [beq_eq_false_iff_ne]; exact fun e => he (eqS_iff.1 e)
            have hin2 : Hid ((O ++ [vaAt l k]) ++ putV (s, v) true (l.drop (k + 1)) = putV (s, v) false l) := by
              show _ = _
              rw [← hin.out]; simp [he]
            clear hin he
            go_wp2_with (first | (at_builtin; refine wpList_append_lies _ rfl _ _ 38 rfl w.heap.size 79 ti _ 2 24 Try.underlying38 hI hz0 hz1 hz2 rfl (by decide) _ out.length (flatV out) rfl (hr_wo.alloc _) ⟨wo.heap.size, 0, none⟩ 1 1 (cellsV ((s, v) : Va)) rfl rfl (newsV _ _ _ _) (newsV_one _ _) (by omega) (by unfold maxLen; omega) (by omega) (by simp; omega) (wo.heap.size + 1) (by simp) ?_; intro g_w7 cap_w7 w7 ho_w7 hg_w7 ha_w7 hl_w7; have gb_w7 : wo.grownBy w7 (Value.ownBlock _) := gb_trV (World.grownBy_alloc _ _ _) hg_w7; have hob_w7 := fun j hj => hr_wo.lt j hj; have bw_w7 : Below w.heap.size wo w7 := ⟨gb_w7.os, gb_w7.tape, gb_w7.output, gb_w7.size, fun j hj => gb_w7.block j (by omega) (fun e => by have := (hob_w7 j e.symm).1; omega)⟩; have hb_w7 := hb_wo.trans bw_w7; have c0_w7 : w7.cell? ⟨b, off + k * 2, none⟩ = some (.string (vaAt l k).1) := by { rw [bw_w7.cell (by show b < _; omega)]; exact c0_wo }; have c1_w7 : w7.cell? ⟨b, off + k * 2 + 1, none⟩ = some (.int .i64 (vaAt l k).2) := by { rw [bw_w7.cell (by show b < _; omega)]; exact c1_wo }; have hr_w7 : w7.ownsRow w.heap.size 79 2 (.slice (some ⟨g_w7, 0, none⟩) (out.length + 1) cap_w7) (out ++ [((s, v) : Va)]).length (flatV (out ++ [((s, v) : Va)])) := by { rw [flatV_snoc]; simpa using ho_w7 }; have hz_w7 := hb_w7.size; clear gb_w7 hob_w7 bw_w7 ho_w7 hg_w7 ha_w7; rw [← hO] at hr_w7) | (at_builtin; refine wpList_append_lies _ rfl _ _ 38 rfl w.heap.size 79 ti _ 2 24 Try.underlying38 hI hz0 hz1 hz2 rfl (by decide) _ O.length (flatV O) rfl (hr_w7.alloc _) ⟨w7.heap.size, 0, none⟩ 1 1 (cellsV (vaAt l k)) rfl rfl (newsV _ _ _ _) (newsV_one _ _) (by omega) (by unfold maxLen; omega) (by omega) (by simp; omega) (w7.heap.size + 1) (by simp) ?_; intro g_w9 cap_w9 w9 ho_w9 hg_w9 ha_w9 hl_w9; have gb_w9 : w7.grownBy w9 (Value.ownBlock _) := gb_trV (World.grownBy_alloc _ _ _) hg_w9; have hob_w9 := fun j hj => hr_w7.lt j hj; have bw_w9 : Below w.heap.size w7 w9 := ⟨gb_w9.os, gb_w9.tape, gb_w9.output, gb_w9.size, fun j hj => gb_w9.block j (by omega) (fun e => by have := (hob_w9 j e.symm).1; omega)⟩; have hb_w9 := hb_w7.trans bw_w9; have c0_w9 : w9.cell? ⟨b, off + k * 2, none⟩ = some (.string (vaAt l k).1) := by { rw [bw_w9.cell (by show b < _; omega)]; exact c0_w7 }; have c1_w9 : w9.cell? ⟨b, off + k * 2 + 1, none⟩ = some (.int .i64 (vaAt l k).2) := by { rw [bw_w9.cell (by show b < _; omega)]; exact c1_w7 }; have hr_w9 : w9.ownsRow w.heap.size 79 2 (.slice (some ⟨g_w9, 0, none⟩) (O.length + 1) cap_w9) (O ++ [(vaAt l k)]).length (flatV (O ++ [(vaAt l k)])) := by { rw [flatV_snoc]; simpa using ho_w9 }; have hz_w9 := hb_w9.size; clear gb_w9 hob_w9 bw_w9 ho_w9 hg_w9 ha_w9))
            go_roundw
            case rel => exact ⟨k + 1, true, O ++ [vaAt l k], by omega, by go_num, rfl, hin2, by first | omega | (simp; omega), (by first | exact hr_w9 | (rw [hOl] at hr_w9; exact hr_w9)), hb_w9⟩
            case measure => simp [intOf]; omega
        · have hk2' : leS s (vaAt l k).1 = false := by simpa using hk2
          have hle : (Op.bytesLess s.toList (vaAt l k).1.toList || s.toList == (vaAt l k).1.toList) = false := hk2'
          have hin : Hid (out ++ (if (vaAt l k).1 = s then putV (s, v) false (l.drop (k + 1)) else vaAt l k :: putV (s, v) false (l.drop (k + 1))) = putV (s, v) false l) := by
            show _ = _
            rw [← hin.out]
            conv => rhs; unfold putV
            simp [hk2']
          clear hk2 hk2'
          by_cases he : (vaAt l k).1 = s
          · have he' : ((vaAt l k).1.toList == s.toList) = true := by rw [he]; simp
            have hin2 : Hid (out ++ putV (s, v) false (l.drop (k + 1)) = putV (s, v) false l) := by
              show _ = _
              rw [← hin.out]; simp [he]
            clear hin he
            go_wp2
            go_roundw
            case rel => exact ⟨k + 1, false, out, by omega, by go_num, rfl, hin2, by first | omega | (simp; omega), hr_wo, hb_wo⟩
            case measure => simp [intOf]; omega
          · have he' : ((vaAt l k).1.toList == s.toList) = false := by rw [beq_eq_false_iff_ne]; exact fun e => he (eqS_iff.1 e)
            have hin2 : Hid ((out ++ [vaAt l k]) ++ putV (s, v) false (l.drop (k + 1)) = putV (s, v) false l) := by
              show _ = _
              rw [← hin.out]; simp [he]
            clear hin he
            go_wp2_with (first | (at_builtin; refine wpList_append_lies _ rfl _ _ 38 rfl w.heap.size 79 ti _ 2 24 Try.underlying38 hI hz0 hz1 hz2 rfl (by decide) _ out.length (flatV out) rfl (hr_wo.alloc _) ⟨wo.heap.size, 0, none⟩ 1 1 (cellsV (vaAt l k)) rfl rfl (newsV _ _ _ _) (newsV_one _ _) (by omega) (by unfold maxLen; omega) (by omega) (by simp; omega) (wo.heap.size + 1) (by simp) ?_; intro g_w9 cap_w9 w9 ho_w9 hg_w9 ha_w9 hl_w9; have gb_w9 : wo.grownBy w9 (Value.ownBlock _) := gb_trV (World.grownBy_alloc _ _ _) hg_w9; have hob_w9 := fun j hj => hr_wo.lt j hj; have bw_w9 : Below w.heap.size wo w9 := ⟨gb_w9.os, gb_w9.tape, gb_w9.output, gb_w9.size, fun j hj => gb_w9.block j (by omega) (fun e => by have := (hob_w9 j e.symm).1; omega)⟩; have hb_w9 := hb_wo.trans bw_w9; have c0_w9 : w9.cell? ⟨b, off + k * 2, none⟩ = some (.string (vaAt l k).1) := by { rw [bw_w9.cell (by show b < _; omega)]; exact c0_wo }; have c1_w9 : w9.cell? ⟨b, off + k * 2 + 1, none⟩ = some (.int .i64 (vaAt l k).2) := by { rw [bw_w9.cell (by show b < _; omega)]; exact c1_wo }; have hr_w9 : w9.ownsRow w.heap.size 79 2 (.slice (some ⟨g_w9, 0, none⟩) (out.length + 1) cap_w9) (out ++ [(vaAt l k)]).length (flatV (out ++ [(vaAt l k)])) := by { rw [flatV_snoc]; simpa using ho_w9 }; have hz_w9 := hb_w9.size; clear gb_w9 hob_w9 bw_w9 ho_w9 hg_w9 ha_w9))
            go_roundw
            case rel => exact ⟨k + 1, false, out ++ [vaAt l k], by omega, by go_num, rfl, hin2, by first | omega | (simp; omega), (by first | exact hr_w9 | (rw [hOl] at hr_w9; exact hr_w9)), hb_w9⟩
            case measure => simp [intOf]; omega
    · obtain rfl : k = l.length := by omega
      rw [List.drop_length] at hin
      cases dn with
      | true =>
        have e : out = putV (s, v) false l := by rw [← hin.out]; simp [putV]
        rw [e] at hr_wo
        clear hin hc
        go_wp2
        go_ret
        exact ⟨_, rfl, hr_wo, hb_wo⟩
      | false =>
        have e : out ++ [(s, v)] = putV (s, v) false l := by rw [← hin.out]; simp [putV]
        have hz_wo := hb_wo.size
        clear hin hc
        go_wp2_with (at_builtin; refine wpList_append_lies _ rfl _ _ 38 rfl w.heap.size 79 ti _ 2 24 Try.underlying38 hI hz0 hz1 hz2 rfl (by decide) _ out.length (flatV out) rfl (hr_wo.alloc _) ⟨wo.heap.size, 0, none⟩ 1 1 (cellsV ((s, v) : Va)) rfl rfl (newsV _ _ _ _) (newsV_one _ _) (by omega) (by unfold maxLen; omega) (by omega) (by simp; omega) (wo.heap.size + 1) (by simp) ?_; intro g_w7 cap_w7 w7 ho_w7 hg_w7 ha_w7 hl_w7)
        have gb7 : wo.grownBy w7 (Value.ownBlock _) := gb_trV (World.grownBy_alloc _ _ _) hg_w7
        go_ret
        refine ⟨_, rfl, ?_, ?_⟩
        · rw [← e, flatV_snoc]
          simpa using ho_w7
        · exact hb_wo.trans ⟨gb7.os, gb7.tape, gb7.output, gb7.size, fun j hj => gb7.block j (by omega) (fun e => by have := (hr_wo.lt j e.symm).1; omega)⟩

end Go.Proofs.Ytgnfiakbcogdlan
