/- (impl.rows).list: the rows of a map, by their keys. -/
import Derived.Test.YtgnfiakbcogdlaoPutR
namespace Go.Proofs.Ytgnfiakbcogdlao
open Go.ChangeShapes Go.WideShapes Go.ChangeAt Go.RowKit Go.Sort Go.Maps Go.Deep Go.Joins
set_option linter.unusedVariables false
set_option maxRecDepth 100000
attribute [local go_sem ↓] Go.wp_at_zero Go.wp_at_succ

theorem flatK_cells : ∀ (l : List Vr) (i : Nat), i < l.length → (flatK l)[i * 2]? = some (.int .i64 (vAt l i).1) ∧ (flatK l)[i * 2 + 1]? = some (.int .i64 (vAt l i).2)
  | [], i, h => absurd h (Nat.not_lt_zero _)
  | x :: l, 0, h => by simp [flatK, cells2, vAt]
  | x :: l, i + 1, h => by
    obtain ⟨h1, h2⟩ := flatK_cells l i (by simpa using h)
    have e : flatK (x :: l) = .int .i64 x.1 :: .int .i64 x.2 :: flatK l := by simp [flatK, cells2]
    rw [e]
    refine ⟨?_, ?_⟩
    · rw [show (i + 1) * 2 = i * 2 + 1 + 1 by omega]; simpa [vAt] using h1
    · rw [show (i + 1) * 2 + 1 = i * 2 + 1 + 1 + 1 by omega]; simpa [vAt] using h2

theorem versAt_of_ownsR {base : Nat} {w : World} {v : Value} {ks : List Vr} {T : TypeId} (h : w.ownsRow base T 2 v ks.length (flatK ks)) (hm : ks.length ≤ maxLen) : VersAt base w.heap.size w v ks := by
  have h0 := h
  obtain ⟨h1, ⟨h2, h3⟩ | ⟨b, cap, cur, rfl, hb, hh, hcap, hm, hc, ht⟩⟩ := h
  · exact ⟨none, 0, by rw [h2, h3], hm, fun hp => absurd hp (by omega)⟩
  · refine ⟨_, cap, rfl, by omega, fun _ => ⟨b, 0, rfl, hb, (Array.getElem?_eq_some_iff.1 hh).1, fun i hi => ?_⟩⟩
    obtain ⟨g1, g2⟩ := flatK_cells ks i hi
    have e1 := h0.cellAt (i * 2) (by omega)
    have e2 := h0.cellAt (i * 2 + 1) (by omega)
    rw [g1] at e1
    rw [g2] at e2
    exact ⟨by simpa using e1, by simpa using e2⟩

theorem sortedKeysR_any (g : Nat) (lb : Array Value) (eg : ∀ args w, (callFunc g args).run Try.prog w = .ok (.enter g args) w) (f : Int → Int → Option Value) (N : Nat) (hN : N ≤ 1048580) (w : World) (hseq : SeqGives Fence.wide 1 Try.prog g lb encK (KeysAre f) N w) :
    Calls Try.prog 74 #[.func (.func g) #[] lb, .func (.func 76) #[] #[]] w fun e w' => ∃ (v : Value) (ks : List (Int × Int)), e = .returned v ∧ KeysAre f ks ∧ (ks.Pairwise fun x y => klB x.1 x.2 y.1 y.2 = true) ∧ ks.length ≤ N ∧ VersAt w.heap.size w'.heap.size w' v ks ∧ Below w.heap.size w w' := by
  refine (callsIn_wide.1 (sortedFunc_in 4 (by omega) g lb eg _ N (by omega) w hseq.bounded)).mono ?_
  rintro e W1 ⟨kv, ss, rfl, ⟨hss, hle⟩, hrow, hnil, hb1⟩
  obtain ⟨hK, hP⟩ := srtK_keys hss
  have hlen := lenK ss
  rw [← hlen] at hrow
  exact ⟨_, srtK ss, rfl, hK, hP, by omega, versAt_of_ownsR hrow (by unfold maxLen; omega), hb1⟩

theorem owns_sliceR {w : World} {base : Nat} {e : TypeId} {size : Nat} {v : Value} {n : Nat} {xs : List Value} (h : w.ownsRow base e size v n xs) : ∃ a m c, v = .slice a m c := by
  rcases h.2 with ⟨rfl, _⟩ | ⟨g, cap, cur, rfl, _⟩
  · exact ⟨_, _, _, rfl⟩
  · exact ⟨_, _, _, rfl⟩

/-- The rows of the keys ks. -/
def rowsOf (m : Int → Int → Int) (ks : List Vr) : List Rw := ks.map fun x => ⟨x.1, x.2, m x.1 x.2⟩
theorem rowsOf_snoc (m : Int → Int → Int) (ks : List Vr) {k : Nat} (h : k < ks.length) : rowsOf m (ks.take (k + 1)) = rowsOf m (ks.take k) ++ [⟨(vAt ks k).1, (vAt ks k).2, m (vAt ks k).1 (vAt ks k).2⟩] := by
  have e : vAt ks k = ks[k] := by simp [vAt, h]
  rw [List.take_succ_eq_append_getElem h, e]
  simp only [rowsOf, List.map_append, List.map_cons, List.map_nil]
theorem rowOfF_rowsOf (m : Int → Int → Int) (t r : Int) : ∀ (ks : List Vr), rowOfF t r (rowsOf m ks) = if (t, r) ∈ ks then m t r else 0
  | [] => by simp [rowsOf, rowOfF]
  | x :: ks => by
    have ih := rowOfF_rowsOf m t r ks
    show rowOfF t r (⟨x.1, x.2, m x.1 x.2⟩ :: rowsOf m ks) = _
    simp only [rowOfF]
    by_cases e : x.1 = t ∧ x.2 = r
    · obtain ⟨rfl, rfl⟩ := e
      simp
    · rw [if_neg e, ih]
      have : ¬ (t, r) = x := fun h => e ⟨by rw [← h], by rw [← h]⟩
      simp [this]

/-- Rows that are in order, have no 0, and have the values m. -/
structure RowsOf (m : Int → Int → Int) (l : List Rw) : Prop where
  asc : ascR l
  nz : nzR l
  wfk : ∀ x ∈ l, wf x.t ∧ wf x.r
  val : ∀ t r, wf t → wf r → rowOfF t r l = m t r
theorem RowsOf.one {m : Int → Int → Int} {l l' : List Rw} (h : RowsOf m l) (h' : RowsOf m l') : l = l' :=
  rows_one h.asc h'.asc h.nz h'.nz h.wfk h'.wfk fun t r ht hr => by rw [h.val t r ht hr, h'.val t r ht hr]

theorem rowsOf_is {m : Int → Int → Int} {ks : List (Int × Int)} (hK : KeysAre (mf m) ks) (hP : ks.Pairwise fun x y => klB x.1 x.2 y.1 y.2 = true) : RowsOf m (rowsOf m ks) where
  asc := List.pairwise_map.2 hP
  nz := fun x hx => by
    obtain ⟨y, hy, rfl⟩ := List.mem_map.1 hx
    obtain ⟨w1, w2⟩ := hK.2.1 y hy
    have := (hK.2.2 y.1 y.2 w1 w2).1 hy
    unfold mf at this
    by_cases e : m y.1 y.2 = 0
    · rw [if_pos e] at this; simp at this
    · exact e
  wfk := fun x hx => by
    obtain ⟨y, hy, rfl⟩ := List.mem_map.1 hx
    exact hK.2.1 y hy
  val := fun t r ht hr => by
    rw [rowOfF_rowsOf]
    by_cases hm : (t, r) ∈ ks
    · rw [if_pos hm]
    · rw [if_neg hm]
      by_cases e : m t r = 0
      · exact e.symm
      · exact absurd ((hK.2.2 t r ht hr).2 (by unfold mf; rw [if_neg e]; rfl)) hm

theorem build_rowR (t r v : Int) (w : World) : (Instr.build 74 #[(0, .agg #[.int .i64 t, .int .i64 r]), (1, .int .i64 v)]).run Try.prog w = .ok (.agg #[.int .i64 t, .int .i64 r, .int .i64 v]) w := by kernel_rfl

set_option maxHeartbeats 4000000 in
theorem rowsList_own (b n : Nat) (m : Int → Int → Int) (w : World) (h : RMap w b n m) (hn : n ≤ 1048580) :
    Calls Try.prog 44 #[.map (some b)] w fun e w' => ∃ v rs, e = .returned v ∧ RowsOf m rs ∧ rs.length ≤ n ∧ w'.ownsRow w.heap.size 74 3 v rs.length (flat rs) ∧ Below w.heap.size w w' := by
  have h0 := h
  obtain ⟨D, hown, hat⟩ := h
  have hbl := hown.lt
  have hsz := hown.size_le
  obtain ⟨ti, hI, hz0, hz1, hz2⟩ := info_parts infoRow
  have ek : ∀ args w, (callFunc 101 args).run Try.prog w = .ok (.enter 101 args) w := enters_of Try.func101 (by kernel_rfl) rfl
  have hseq : SeqGives Fence.wide 1 Try.prog 101 #[.pointer (some ⟨w.heap.size, 0, none⟩)] encK (KeysAre (mf m)) (Maps.size D) (w.alloc (.cells #[.map (some b)] 80)) :=
    keys_gives 1 (by omega) w.heap.size b n D (mf m) hat _ (by simp) (by simp [go_sem]) (hown.alloc _)
  have HS : Hid (SeqGives Fence.wide 1 Try.prog 101 #[.pointer (some ⟨w.heap.size, 0, none⟩)] encK (KeysAre (mf m)) (Maps.size D) (w.alloc (.cells #[.map (some b)] 80))) := hseq
  have bA : Below w.heap.size w (w.alloc (.cells #[.map (some b)] 80)) := (Below.refl _ _).alloc (Nat.le_refl _) _
  clear hseq
  go_enter Try.func44, Try.ntmps44
  go_wp2_with (first | (go_at_call 75; refine (callsIn_wide.1 (keys_in 0 _ _)).mono ?_; rintro e w' ⟨rfl, rfl⟩) | (go_at_call 74; refine (sortedKeysR_any _ _ ek (mf m) _ (Nat.le_trans hsz hn) _ HS.out).mono ?_; rintro e W1 ⟨kv, ks, rfl, hK, hP, hkl, hkv, hb1⟩; obtain ⟨ka, kc, rfl, _, hc⟩ := hkv))
  have b1 : Below w.heap.size w W1 := bA.trans (hb1.mono bA.size)
  have hM1 : RMap W1 b n m := h0.of_block (b1.block _ hbl)
  have hw1 := b1.size
  have hkn : ks.length ≤ 1048580 := by omega
  clear HS hown hat bA hb1 h0
  go_loopw [3, 10] (fun x i wr => ∃ (k : Nat), k ≤ ks.length ∧ i = .int .i64 k ∧ wr.ownsRow W1.heap.size 74 3 x k (flat (rowsOf m (ks.take k))) ∧ Below W1.heap.size W1 wr) (fun _ i _ => ks.length - (intOf i).toNat)
  case atStart => exact ⟨0, Nat.zero_le _, rfl, World.ownsRow_nil _ _ _ _, Below.refl _ _⟩
  case round =>
    rename World => wo
    obtain ⟨k, hk, rfl, hrow, hb⟩ := hrel
    by_cases hlt : k < ks.length
    · obtain ⟨gk, off, rfl, hg1, hg2, hcc⟩ := hc (by omega)
      obtain ⟨c0, c1⟩ := hcc k hlt
      replace c0 := cell_stays hb c0
      replace c1 := cell_stays hb c1
      have hmem : vAt ks k ∈ ks := by simp [vAt, List.getD, List.getElem?_eq_getElem hlt]
      obtain ⟨wt, wr'⟩ := hK.2.1 _ hmem
      have hsn := rowsOf_snoc m ks hlt
      have i0' : (0 : Int) ≤ (k : Int) := by omega
      have i1' : (k : Int) < (ks.length : Int) := by omega
      have hzz := hb.size
      obtain ⟨xa, xn, xc, rfl⟩ : ∃ xa xn xc, u3 = Value.slice xa xn xc := owns_sliceR hrow
      have hob : ∀ j, (Value.slice xa xn xc).ownBlock = some j → W1.heap.size ≤ j ∧ j < wo.heap.size := fun j hj => hrow.lt j hj
      have S0 : ∀ x, (wo.alloc (Obj.cells #[Value.int IntKind.i64 (vAt ks k).1, Value.int IntKind.i64 (vAt ks k).2] 29)).grownBy x (Value.slice xa xn xc).ownBlock → x.cell? ⟨wo.heap.size, 0, none⟩ = some (.int .i64 (vAt ks k).1) ∧ x.cell? ⟨wo.heap.size, 1, none⟩ = some (.int .i64 (vAt ks k).2) ∧ (Instr.lookup 80 (.map (some b)) (.agg #[.int .i64 (vAt ks k).1, .int .i64 (vAt ks k).2]) false).run Try.prog x = .ok (.int .i64 (m (vAt ks k).1 (vAt ks k).2)) x := fun x hx => by
        refine ⟨(hx.cell_far _ (by simp) (fun e => by have := (hob _ e.symm).2; simp at this)).trans (by simp [go_sem]), (hx.cell_far _ (by simp) (fun e => by have := (hob _ e.symm).2; simp at this)).trans (by simp [go_sem]), ?_⟩
        refine RMap.look (hM1.of_block ?_) wt wr'
        rw [hx.block b (by simp; omega) (fun e => by have := (hob _ e.symm).1; omega), Below.heap_alloc _ _ _ (by omega)]
        exact hb.block b (by omega)
      have bD : (wo.alloc (Obj.cells #[Value.int IntKind.i64 (vAt ks k).1, Value.int IntKind.i64 (vAt ks k).2] 29)).grownBy (wo.alloc (Obj.cells #[Value.int IntKind.i64 (vAt ks k).1, Value.int IntKind.i64 (vAt ks k).2] 29)).drew (Value.slice xa xn xc).ownBlock := ⟨rfl, rfl, rfl, Nat.le_refl _, fun _ _ _ => rfl⟩
      clear hcc hc hK hP hmem hM1
      go_wp2_with fail
      refine region_last (fun x => x.cell? ⟨wo.heap.size, 0, none⟩ = some (.int .i64 (vAt ks k).1) ∧ x.cell? ⟨wo.heap.size, 1, none⟩ = some (.int .i64 (vAt ks k).2) ∧ (Instr.lookup 80 (.map (some b)) (.agg #[.int .i64 (vAt ks k).1, .int .i64 (vAt ks k).2]) false).run Try.prog x = .ok (.int .i64 (m (vAt ks k).1 (vAt ks k).2)) x) (by kernel_rfl) (by kernel_rfl) (by kernel_rfl) (S0 _ bD) (fun hHeld => ?_)
      simp only [List.dropLast, List.length_cons, List.length_nil, Nat.reduceAdd]
      have hbr := build_rowR (vAt ks k).1 (vAt ks k).2 (m (vAt ks k).1 (vAt ks k).2)
      refine takeL (i := 0) (v := ?_) rfl (by kernel_rfl) (by kernel_rfl) (by kernel_rfl) (fun _ _ _ h => h) rfl (by assumption) ?_ ?_
      rotate_left
      · (intro wS hSw; (try dsimp only at hSw); go_simp; try with_reducible rfl)
      (try simp only [Act.put, List.setIfInBounds_toArray, List.set_cons_zero, List.set_cons_succ])
      refine takeL (i := 1) (v := ?_) rfl (by kernel_rfl) (by kernel_rfl) (by kernel_rfl) (fun _ _ _ h => h) rfl (by assumption) ?_ ?_
      rotate_left
      · (intro wS hSw; (try dsimp only at hSw); go_simp; try with_reducible rfl)
      (try simp only [Act.put, List.setIfInBounds_toArray, List.set_cons_zero, List.set_cons_succ])
      refine takeL (i := 2) (v := ?_) rfl (by kernel_rfl) (by kernel_rfl) (by kernel_rfl) (fun _ _ _ h => h) rfl (by assumption) ?_ ?_
      rotate_left
      · (intro wS hSw; (try dsimp only at hSw); go_simp; try with_reducible rfl)
      (try simp only [Act.put, List.setIfInBounds_toArray, List.set_cons_zero, List.set_cons_succ])
      refine takeL (i := 3) (v := ?_) rfl (by kernel_rfl) (by kernel_rfl) (by kernel_rfl) (fun _ _ _ h => h) rfl (by assumption) ?_ ?_
      rotate_left
      · (intro wS hSw; (try dsimp only at hSw); go_simp; try with_reducible rfl)
      (try simp only [Act.put, List.setIfInBounds_toArray, List.set_cons_zero, List.set_cons_succ])
      refine takeL (i := 4) (v := ?_) rfl (by kernel_rfl) (by kernel_rfl) (by kernel_rfl) (fun _ _ _ h => h) rfl (by assumption) ?_ ?_
      rotate_left
      · (intro wS hSw; (try dsimp only at hSw); go_simp; try with_reducible rfl)
      (try simp only [Act.put, List.setIfInBounds_toArray, List.set_cons_zero, List.set_cons_succ])
      refine takeL (i := 5) (v := ?_) rfl (by kernel_rfl) (by kernel_rfl) (by kernel_rfl) (fun _ _ _ h => h) rfl (by assumption) ?_ ?_
      rotate_left
      · (intro wS hSw; (try dsimp only at hSw); go_simp; try with_reducible rfl)
      (try simp only [Act.put, List.setIfInBounds_toArray, List.set_cons_zero, List.set_cons_succ])
      refine stepL (i := 6) rfl (by kernel_rfl) (fun K hK => ?_)
      rw [if_pos (by rfl)]
      go_simp
      have g6 := gb_tr' bD (World.grownBy_alloc _ (Obj.cells #[.int .i64 (vAt ks k).1, .int .i64 (vAt ks k).2, .int .i64 (m (vAt ks k).1 (vAt ks k).2)] 74) _)
      refine hK.out _ _ (S0 _ g6) (fun hHeld2 => ?_)
      clear hK K hHeld
      (try simp only [Act.put, List.setIfInBounds_toArray, List.set_cons_zero, List.set_cons_succ])
      refine stepL (i := 7) rfl (by kernel_rfl) (fun K hK => ?_)
      refine step_append_lies _ (by rfl) _ _ _ (by rfl) W1.heap.size 74 ti _ 3 24 Try.underlying26 hI hz0 hz1 hz2 rfl (by omega) (.slice xa xn xc) k (flat (rowsOf m (ks.take k))) (by rfl) (((hrow.alloc _).alloc _).drew) ⟨wo.heap.size + 1, 0, none⟩ 1 1 (cells3 ⟨(vAt ks k).1, (vAt ks k).2, m (vAt ks k).1 (vAt ks k).2⟩) (by rfl) (by rfl) (fun j u hu => news3 wo _ _ _ _ _ j u hu) (news3_one _ _ _) (by omega) (by unfold maxLen; omega) (by omega) (by simp; omega) (wo.heap.size + 1 + 1) (by simp) ?_
      intro gg cap5 w5 hown5 hgrow5 hat5 hlt5
      have g7 := gb_tr' g6 hgrow5
      refine hK.out _ _ (S0 _ g7) (fun hHeld3 => ?_)
      clear hK K hHeld2 hHeld3
      (try simp only [Act.put, List.setIfInBounds_toArray, List.set_cons_zero, List.set_cons_succ])
      refine wpAnyH_done (by kernel_rfl) ?_ _
      refine lastL (n := 8) rfl rfl ?_
      go_simp
      have hB5 : Below W1.heap.size W1 w5 := (hb.alloc hb.size _).grown g7 (by simp; omega) (fun j hj => (hob j hj).1)
      have hrow5 : w5.ownsRow W1.heap.size 74 3 (.slice (some ⟨gg, 0, none⟩) (k + 1) cap5) (k + 1) (flat (rowsOf m (ks.take (k + 1)))) := by
        rw [hsn, flat_snoc]; exact hown5
      clear S0 hown5 hgrow5 g7 g6 bD
      go_wp2
      go_roundw
      case rel => exact ⟨k + 1, by omega, by go_num, hrow5, hB5⟩
      case measure => simp [intOf]; omega
    · obtain rfl : k = ks.length := by omega
      rw [List.take_length] at hrow
      have hl : (rowsOf m ks).length = ks.length := by simp [rowsOf]
      go_wp2
      go_ret
      exact ⟨_, rowsOf m ks, rfl, rowsOf_is hK hP, by omega, by rw [hl]; exact hrow.mono hw1, b1.trans (hb.mono hw1)⟩
end Go.Proofs.Ytgnfiakbcogdlao
