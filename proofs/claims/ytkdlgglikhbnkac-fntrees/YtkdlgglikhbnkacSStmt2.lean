/- The specification's reader: statements, walked. -/
import Derived.Test.YtkdlgglikhbnkacSStmt
namespace Go.Proofs.Ytkdlgglikhbnkac
open Go.ChangeShapes Go.WideShapes Go.ChangeAt Go.RowKit
set_option linter.unusedVariables false
set_option maxRecDepth 100000
attribute [local go_sem ↓] Go.wp_at_zero Go.wp_at_succ

theorem SAt.base_le {base rb : Nat} {T : List Tk} {tv pv : Value} {w0 : World} {nv0 : Value} {q0 : List Qn} {i0 ad sl d : Nat} {L : List Nat} {w : World} {α : Type} {r : PR α} (h : SAt base rb T tv pv w0 nv0 q0 i0 ad sl d L w r) : base ≤ w.heap.size := by
  rcases r with ⟨a, i, ns⟩ | i
  · obtain ⟨nv, q, hS, _⟩ := h; exact hS.base_le
  · have := h.1.lt; have := h.1.rb0; omega

set_option maxHeartbeats 8000000 in
theorem sstmt_step {base rb : Nat} {T : List Tk} {tv pv : Value} {n : Nat} (hT : Goods T) (hE : SExprC base rb T tv pv n) (hRo : SRowC base rb T tv pv n) (hB : ∀ m, m + 1 = n → SBlockC base rb T tv pv m) : SStmtC base rb T tv pv n := by
  intro w i d nv q h hn
  have hq0 := h.hq
  obtain ⟨TOP, hTOP⟩ : ∃ r, stmtG T (fns T n) d i (qnds q) = r := ⟨_, rfl⟩
  rw [hTOP]
  have hres : Hid (TOP = stmtG T (fns T n) d i (qnds q)) := hTOP.symm
  clear hTOP
  obtain ⟨iI, hII, hzi0, hzi1, hzi2⟩ := info_parts infoI
  have s0 := SAt.start h
  have hEx : ∀ (w : World) (j : Nat) (nv : Value) (q : List Qn), Sd base rb T tv pv w j d nv q → i ≤ j → Calls Try.prog 71 #[.pointer (some ⟨rb, 0, none⟩)] w (SpRet base rb T tv pv w nv q d j (exprG T (fns T n) d j (qnds q))) := fun w j nv q h hj => hE w j d nv q h (by omega)
  have hBx : ∀ (w : World) (j : Nat) (nv : Value) (q : List Qn), Sd base rb T tv pv w j d nv q → i + 1 ≤ j → Calls Try.prog 43 #[.pointer (some ⟨rb, 0, none⟩)] w (SpRet base rb T tv pv w nv q d j ((fns T n).block d j (qnds q))) := fun w j nv q h hj => SBlockC.down hB h hj hn
  go_enter Try.func61, Try.ntmps61
  go_wp2_with fail
  refine (take_s hT s0 ask_write).mono ?_
  rintro e w1 ⟨-, ⟨rfl, a, i1, ns1, hr1, hs1, s1⟩ | ⟨rfl, s1, hn1⟩⟩
  · cases hr1
    have hres2 : Hid (TOP = (rowG T (fns T n) d (i + 1) (qnds q)).then fun x i ns => (skipF T (ByteArray.mk #[61]) i ns).then fun _ i ns => (exprG T (fns T n) d i ns).then fun v i ns => (skipF T (ByteArray.mk #[59]) i ns).then fun _ i ns => putF ⟨22, empS, x.1, [(x.2 : Int), (v : Int)]⟩ i ns) := by
      show _ = _
      rw [hres.out, stmtG, if_pos hs1, writeG, skipF, if_pos hs1, PR.then_ok]
    clear hs1 hres
    go_wp2_with fail
    refine (row_s s1 hRo hn).mono ?_
    rintro e w2 ⟨t, z, rfl, s2, v2, -⟩
    go_wp2_with fail
    refine (want_s hT s2 ask_is).mono ?_
    rintro e w3 ⟨rfl, s3, -⟩
    have v3 := v2.skip T (ByteArray.mk #[61])
    go_wp2_with fail
    refine (part_s s3 _ (fun i ns => exprG T (fns T n) d i ns) (fun w i nv q h hi => hEx w i nv q h (by omega)) (fun w i h => sexpr_bad h)).mono ?_
    rintro e w4 ⟨y, rfl, s4, v4, -⟩
    have v34 := v3.pair (fun i ns => exprG T (fns T n) d i ns)
    go_wp2_with fail
    refine (want_s hT s4 ask_semi).mono ?_
    rintro e w5 ⟨rfl, s5, -⟩
    have v5 := (v34.map2 v4 fun (a : Int × Int) (b : Int) => (⟨22, empS, a.1, [a.2, b]⟩ : Nd)).skip T (ByteArray.mk #[59])
    go_wp2_with fail
    refine (node_s s5 ⟨22, empS, t, [z, y]⟩ _ v5 (by simp) hq0).mono ?_
    rintro e w6 ⟨k6, rfl, s6, v6⟩
    go_wp2
    go_ret
    rw [hres2.out]
    simp only [PR.then_ok, PR.then_assoc] at s6 v6
    exact done_s s6 v6 1 (by omega) (by omega)
  replace hn1 := hn1 _ _ _ rfl
  change Hid _ at hn1
  go_wp2_with fail
  refine (take_s hT s1 ask_if).mono ?_
  rintro e w2 ⟨-, ⟨rfl, a, i1, ns1, hr1, hs1, s2⟩ | ⟨rfl, s2, hn2⟩⟩
  · cases hr1
    have hres2 : Hid (TOP = choiceG T (fns T n) d i (qnds q)) := by
      show _ = _
      rw [hres.out, stmtG, if_neg hn1.out, if_pos hs1]
    clear hn1 hres s1 s0
    change Hid _ at hs1
    go_wp2_with fail
    refine (want_s hT s2 ask_open).mono ?_
    rintro e w3 ⟨rfl, s3, -⟩
    go_wp2_with fail
    refine (part_s s3 _ (fun i ns => exprG T (fns T n) d i ns) (fun w i nv q h hi => hEx w i nv q h (by omega)) (fun w i h => sexpr_bad h)).mono ?_
    rintro e w4 ⟨z, rfl, s4, v4, -⟩
    go_wp2_with fail
    refine (want_s hT s4 ask_shut).mono ?_
    rintro e w5 ⟨rfl, s5, -⟩
    have v5 := v4.skip T (ByteArray.mk #[41])
    go_wp2_with fail
    refine (part_s s5 _ (fun i ns => (fns T n).block d i ns) (fun w i nv q h hi => hBx w i nv q h (by omega)) (fun w i h => sblock_bad h)).mono ?_
    rintro e w6 ⟨y, rfl, s6, v6, -⟩
    have v56 := v5.pair (fun i ns => (fns T n).block d i ns)
    have vk := v56.map2 v6 fun (a b : Int) => [a, b]
    clear v56 v6 v5 v4 s5 s4 s3 s2
    change SAt _ _ _ _ _ _ _ _ _ _ _ _ _ _ (choiceH T (fns T n) d i (qnds q)) at s6
    change Val (choiceH T (fns T n) d i (qnds q)) _ _ at vk
    have hbl := s6.base_le
    have s7 := s6.fresh (Obj.cells (icells [z, y]).toArray 3)
    have o7 : (w6.alloc (Obj.cells (icells [z, y]).toArray 3)).ownsRow base 3 1 (.slice (some ⟨w6.heap.size, 0, none⟩) 2 2) 2 (icells [z, y]) := owns_fresh w6 base [z, y] hbl (by unfold maxLen; simp)
    have L7 : ∀ g, (Value.slice (some ⟨w6.heap.size, 0, none⟩) 2 2).ownBlock = some g → g ∈ [w6.heap.size] := fun g hg => by
      have hg' : some w6.heap.size = some g := hg
      injection hg' with hg'
      simp [hg']
    clear s6 hbl
    go_wp2_with fail
    change Calls _ _ _ (w6.alloc (Obj.cells (icells [z, y]).toArray 3)) _
    generalize w6.alloc (Obj.cells (icells [z, y]).toArray 3) = w7 at *
    refine (take_s hT s7 ask_else).mono ?_
    rintro e w8 ⟨k8, ⟨rfl, a, i1, ns1, hr1, hs8, s8⟩ | ⟨rfl, s8, hn8⟩⟩
    · have v8 := vk.ok hr1 (i1 + 1) ns1
      have o8 := own_keep (w' := w8) o7 fun g hg _ => k8 g (L7 g hg)
      have hres3 : Hid (TOP = _) := hres2.out.trans (choice_else hs1.out hr1 hs8)
      clear hs8 hr1 hs1 vk hres2 s7 o7
      go_wp2_with fail
      refine (part_s s8 _ (fun i ns => (fns T n).block d i ns) (fun w i nv q h hi => hBx w i nv q h (by omega)) (fun w i h => sblock_bad h)).mono ?_
      rintro e w9 ⟨x, rfl, s9, v9, k9⟩
      have v89 := v8.pair (fun i ns => (fns T n).block d i ns)
      have o9 := own_keep (w' := w9) o8 fun g hg _ => k9 g (L7 g hg)
      have hb9 := s9.base_le
      clear o8
      go_wp2_with (at_builtin; refine wpList_append_lies _ rfl _ _ 31 rfl base 3 iI _ 1 8 Try.underlying31 hII hzi0 hzi1 hzi2 rfl (by decide) _ 2 (icells [z, y]) rfl (o9.alloc _) ⟨w9.heap.size, 0, none⟩ 1 1 [.int .i64 x] rfl rfl (World.news_of_block (heap_alloc_new w9 _)) (by simp [Value.oneCell']) (by simp) (by unfold maxLen; omega) (by omega) (by simp; omega) (w9.heap.size + 1) (by simp) ?_; intro g10 cap10 w10 hown10 hgrow10 hat10 hlt10)
      obtain ⟨s10, o10⟩ := SAt.grown (l := [z, y]) s9 o9 L7 hown10 hgrow10 hat10
      clear hown10 hgrow10 hat10 hlt10
      refine (nodeL_s s10 ⟨23, empS, 0, [z, y] ++ [x]⟩ _ (v89.map2 v9 fun (a : List Int) (b : Int) => (⟨23, empS, 0, a ++ [b]⟩ : Nd)) rfl o10 (fun g hg => ?_) hq0).mono ?_
      · have hg' : some g10 = some g := hg
        injection hg' with hg'
        simp [hg']
      rintro e w11 ⟨k11, rfl, s11, v11⟩
      go_wp2
      go_ret
      rw [hres3.out]
      simp only [PR.then_ok, PR.then_assoc, List.cons_append, List.nil_append] at s11 v11
      exact done_s s11 v11 1 (by omega) (by omega)
    · have o8 := own_keep (w' := w8) o7 fun g hg _ => k8 g (L7 g hg)
      have hres3 : Hid (TOP = _) := hres2.out.trans (choice_plain hs1.out hn8)
      clear hn8 hs1 hres2 s7 o7
      go_wp2_with fail
      refine (nodeL_s s8 ⟨23, empS, 0, [z, y]⟩ _ (vk.map1 fun (a : List Int) => (⟨23, empS, 0, a⟩ : Nd)) rfl o8 L7 hq0).mono ?_
      rintro e w9 ⟨k9, rfl, s9, v9⟩
      go_wp2
      go_ret
      rw [hres3.out]
      exact done_s s9 v9 1 (by omega) (by omega)
  replace hn2 := hn2 _ _ _ rfl
  change Hid _ at hn2
  go_wp2_with fail
  refine (take_s hT s2 ask_for).mono ?_
  rintro e w3 ⟨-, ⟨rfl, a, i1, ns1, hr1, hs1, s3⟩ | ⟨rfl, s3, hn3⟩⟩
  · cases hr1
    have hres2 : Hid (TOP = (takeF T 2 (i + 1) (qnds q)).then fun x i ns => (skipF T (ByteArray.mk #[105, 110]) i ns).then fun _ i ns => (takeF T 1 i ns).then fun m i ns => ((fns T n).block d i ns).then fun b i ns => putF ⟨24, x.s, m.n, [(b : Int)]⟩ i ns) := by
      show _ = _
      rw [hres.out, stmtG, if_neg hn1.out, if_neg hn2.out, if_pos hs1, loopG, skipF, if_pos hs1, PR.then_ok]
    clear hs1 hres hn1 hn2 s0 s1 s2
    go_wp2_with fail
    refine (kind_s s3 2 (by decide)).mono ?_
    rintro e w4 ⟨t, rfl, s4, v4, -⟩
    have s5 := s4.fresh (Obj.cells #[.int .i64 t.k, .string t.s, .int .i64 t.n, .int .i64 t.p] 59)
    have y5 : (w4.alloc (Obj.cells #[.int .i64 t.k, .string t.s, .int .i64 t.n, .int .i64 t.p] 59)).cell? ⟨w4.heap.size, 1, none⟩ = some (.string t.s) := by simp [go_sem]
    go_wp2_with fail
    generalize hG5 : w4.heap.size = G5 at *
    generalize (w4.alloc (Obj.cells #[.int .i64 t.k, .string t.s, .int .i64 t.n, .int .i64 t.p] 59)) = w5 at *
    refine (want_s hT s5 ask_in).mono ?_
    rintro e w6 ⟨rfl, s6, k6⟩
    have v6 := v4.skip T (ByteArray.mk #[105, 110])
    have y6 := cell_same (k6 _ (by simp)) y5
    clear s4 s5 y5 v4 hG5
    go_wp2_with fail
    refine (kind_s s6 1 (by decide)).mono ?_
    rintro e w7 ⟨u, rfl, s7, v7, k7⟩
    have v67 := v6.pair (fun i ns => takeF T 1 i ns)
    have y7 := cell_same (k7 _ (by simp)) y6
    have s8 := s7.fresh (Obj.cells #[.int .i64 u.k, .string u.s, .int .i64 u.n, .int .i64 u.p] 59)
    have x8 : (w7.alloc (Obj.cells #[.int .i64 u.k, .string u.s, .int .i64 u.n, .int .i64 u.p] 59)).cell? ⟨w7.heap.size, 2, none⟩ = some (.int .i64 u.n) := by simp [go_sem]
    have y8 : (w7.alloc (Obj.cells #[.int .i64 u.k, .string u.s, .int .i64 u.n, .int .i64 u.p] 59)).cell? ⟨G5, 1, none⟩ = some (.string t.s) := cell_same (Below.heap_alloc _ _ _ (cell_lt y7)) y7
    clear y6 y7 s6 v6 k6 k7
    go_wp2_with fail
    generalize hG8 : w7.heap.size = G8 at *
    generalize (w7.alloc (Obj.cells #[.int .i64 u.k, .string u.s, .int .i64 u.n, .int .i64 u.p] 59)) = w8 at *
    refine (part_s s8 _ (fun i ns => (fns T n).block d i ns) (fun w i nv q h hi => hBx w i nv q h (by omega)) (fun w i h => sblock_bad h)).mono ?_
    rintro e w9 ⟨z, rfl, s9, v9, k9⟩
    have v79 := (v67.map2 v7 fun (a b : Tk) => (a.s, b.n)).pair (fun i ns => (fns T n).block d i ns)
    have y9 := cell_same (k9 _ (by simp)) y8
    have x9 := cell_same (k9 _ (by simp)) x8
    clear hG8 s8 s7 v7 v67 k9 y8 x8
    go_wp2_with fail
    refine (node_s s9 ⟨24, t.s, u.n, [z]⟩ _ (v79.map2 v9 fun (a : ByteArray × Int) (b : Int) => (⟨24, a.1, a.2, [b]⟩ : Nd)) (by simp) hq0).mono ?_
    rintro e w10 ⟨k10, rfl, s10, v10⟩
    go_wp2
    go_ret
    rw [hres2.out]
    simp only [PR.then_ok, PR.then_assoc] at s10 v10
    exact done_s s10 v10 1 (by omega) (by omega)
  replace hn3 := hn3 _ _ _ rfl
  change Hid _ at hn3
  go_wp2_with fail
  refine (take_s hT s3 ask_abort).mono ?_
  rintro e w4 ⟨-, ⟨rfl, a, i1, ns1, hr1, hs1, s4⟩ | ⟨rfl, s4, hn4⟩⟩
  · cases hr1
    have hres2 : Hid (TOP = (skipF T (ByteArray.mk #[59]) (i + 1) (qnds q)).then fun _ i ns => putF ⟨25, empS, 0, []⟩ i ns) := by
      show _ = _
      rw [hres.out, stmtG, if_neg hn1.out, if_neg hn2.out, if_neg hn3.out, if_pos hs1, skipF, if_pos hs1, PR.then_ok]
    clear hs1 hres hn1 hn2 hn3 s0 s1 s2 s3
    go_wp2_with fail
    refine (want_s hT s4 ask_semi).mono ?_
    rintro e w5 ⟨rfl, s5, -⟩
    go_wp2_with fail
    refine (nodeN_s s5 ⟨25, empS, 0, []⟩ _ (Val.con _) rfl hq0).mono ?_
    rintro e w6 ⟨k6, rfl, s6, v6⟩
    go_wp2
    go_ret
    rw [hres2.out]
    simp only [PR.then_ok, PR.then_assoc] at s6 v6
    exact done_s s6 v6 1 (by omega) (by omega)
  replace hn4 := hn4 _ _ _ rfl
  change Hid _ at hn4
  go_wp2_with fail
  refine (take_s hT s4 ask_return).mono ?_
  rintro e w5 ⟨-, ⟨rfl, a, i1, ns1, hr1, hs1, s5⟩ | ⟨rfl, s5, hn5⟩⟩
  · cases hr1
    have hres2 : Hid (TOP = (exprG T (fns T n) d (i + 1) (qnds q)).then fun v i ns => (skipF T (ByteArray.mk #[59]) i ns).then fun _ i ns => putF ⟨26, empS, 0, [(v : Int)]⟩ i ns) := by
      show _ = _
      rw [hres.out, stmtG, if_neg hn1.out, if_neg hn2.out, if_neg hn3.out, if_neg hn4.out, if_pos hs1, skipF, if_pos hs1, PR.then_ok]
    clear hs1 hres hn1 hn2 hn3 hn4 s0 s1 s2 s3 s4
    go_wp2_with fail
    refine (part_s s5 _ (fun i ns => exprG T (fns T n) d i ns) (fun w i nv q h hi => hEx w i nv q h (by omega)) (fun w i h => sexpr_bad h)).mono ?_
    rintro e w6 ⟨z, rfl, s6, v6, -⟩
    go_wp2_with fail
    refine (want_s hT s6 ask_semi).mono ?_
    rintro e w7 ⟨rfl, s7, -⟩
    have v7 := (v6.map1 fun (a : Int) => (⟨26, empS, 0, [a]⟩ : Nd)).skip T (ByteArray.mk #[59])
    go_wp2_with fail
    refine (node_s s7 ⟨26, empS, 0, [z]⟩ _ v7 (by simp) hq0).mono ?_
    rintro e w8 ⟨k8, rfl, s8, v8⟩
    go_wp2
    go_ret
    rw [hres2.out]
    simp only [PR.then_ok, PR.then_assoc] at s8 v8
    exact done_s s8 v8 1 (by omega) (by omega)
  replace hn5 := hn5 _ _ _ rfl
  have hres2 : Hid (TOP = assignG T (fns T n) d i (qnds q)) := by
    show _ = _
    rw [hres.out, stmtG_assign hn1.out hn2.out hn3.out hn4.out hn5]
  clear hn1 hn2 hn3 hn4 hn5 hres s0 s1 s2 s3 s4
  go_wp2_with fail
  refine (kind_s s5 2 (by decide)).mono ?_
  rintro e w6 ⟨t, rfl, s6, v6, -⟩
  have s7 := s6.fresh (Obj.cells #[.int .i64 t.k, .string t.s, .int .i64 t.n, .int .i64 t.p] 59)
  have y7 : (w6.alloc (Obj.cells #[.int .i64 t.k, .string t.s, .int .i64 t.n, .int .i64 t.p] 59)).cell? ⟨w6.heap.size, 1, none⟩ = some (.string t.s) := by simp [go_sem]
  go_wp2_with fail
  generalize hG7 : w6.heap.size = G7 at *
  generalize (w6.alloc (Obj.cells #[.int .i64 t.k, .string t.s, .int .i64 t.n, .int .i64 t.p] 59)) = w7 at *
  refine (want_s hT s7 ask_is).mono ?_
  rintro e w8 ⟨rfl, s8, k8⟩
  have v8 := v6.skip T (ByteArray.mk #[61])
  have y8 := cell_same (k8 _ (by simp)) y7
  clear s7 s6 y7 v6 k8 hG7
  go_wp2_with fail
  refine (take_s hT s8 ask_read).mono ?_
  rintro e w9 ⟨k9, ⟨rfl, a, i1, ns1, hr1, hs9, s9⟩ | ⟨rfl, s9, hn9⟩⟩
  · have v9 := v8.ok hr1 (i1 + 1) ns1
    have y9 := cell_same (k9 _ (by simp)) y8
    have hres3 : Hid (TOP = _) := hres2.out.trans (assign_read hr1 hs9)
    clear hs9 hr1 hres2 s8 y8 k9
    go_wp2_with fail
    refine (row_s s9 hRo hn).mono ?_
    rintro e w10 ⟨x, z, rfl, s10, v10, k10⟩
    have v910 := v9.pair (fun i ns => rowG T (fns T n) d i ns)
    have y10 := cell_same (k10 _ (by simp)) y9
    go_wp2_with fail
    refine (want_s hT s10 ask_semi).mono ?_
    rintro e w11 ⟨rfl, s11, k11⟩
    have v11 := (v910.map2 v10 fun (a : Tk) (b : Int × Int) => (⟨21, a.s, b.1, [b.2]⟩ : Nd)).skip T (ByteArray.mk #[59])
    have y11 := cell_same (k11 _ (by simp)) y10
    clear y9 y10 k10 k11
    go_wp2_with fail
    refine (node_s s11 ⟨21, t.s, x, [z]⟩ _ v11 (by simp) hq0).mono ?_
    rintro e w12 ⟨k12, rfl, s12, v12⟩
    go_wp2
    go_ret
    rw [hres3.out]
    simp only [PR.then_ok, PR.then_assoc] at s12 v12
    exact done_s s12 v12 1 (by omega) (by omega)
  · have y9 := cell_same (k9 _ (by simp)) y8
    have hres3 : Hid (TOP = _) := hres2.out.trans (assign_set hn9)
    clear hn9 hres2 s8 y8 k9
    go_wp2_with fail
    refine (part_s s9 _ (fun i ns => exprG T (fns T n) d i ns) (fun w i nv q h hi => hEx w i nv q h (by omega)) (fun w i h => sexpr_bad h)).mono ?_
    rintro e w10 ⟨z, rfl, s10, v10, k10⟩
    have v810 := v8.pair (fun i ns => exprG T (fns T n) d i ns)
    have y10 := cell_same (k10 _ (by simp)) y9
    go_wp2_with fail
    refine (want_s hT s10 ask_semi).mono ?_
    rintro e w11 ⟨rfl, s11, k11⟩
    have v11 := (v810.map2 v10 fun (a : Tk) (b : Int) => (⟨20, a.s, 0, [b]⟩ : Nd)).skip T (ByteArray.mk #[59])
    have y11 := cell_same (k11 _ (by simp)) y10
    clear y9 y10 k10 k11
    go_wp2_with fail
    refine (node_s s11 ⟨20, t.s, 0, [z]⟩ _ v11 (by simp) hq0).mono ?_
    rintro e w12 ⟨k12, rfl, s12, v12⟩
    go_wp2
    go_ret
    rw [hres3.out]
    simp only [PR.then_ok, PR.then_assoc] at s12 v12 ⊢
    exact done_s s12 v12 1 (by omega) (by omega)

end Go.Proofs.Ytkdlgglikhbnkac
