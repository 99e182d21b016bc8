/- (impl.variables).list: the walk. impl.PutVar. -/
import Derived.Test.YtgnfiakbcogdlanV6
namespace Go.Proofs.Ytgnfiakbcogdlan
open Go.ChangeShapes Go.WideShapes Go.ChangeAt Go.RowKit Go.Maps Go.Deep Go.Joins Go.Sort Go.Shelf
set_option linter.unusedVariables false
set_option maxRecDepth 100000
attribute [local go_sem ↓] Go.wp_at_zero Go.wp_at_succ

def cellsV (x : Va) : List Value := [.string x.1, .int .i64 x.2]
def flatV (l : List Va) : List Value := l.flatMap cellsV
theorem flatV_snoc (l : List Va) (x : Va) : flatV (l ++ [x]) = flatV l ++ cellsV x := by simp [flatV]
theorem flatV_length (l : List Va) : (flatV l).length = l.length * 2 := by
  induction l with
  | nil => rfl
  | cons x l ih => simp only [flatV, List.flatMap_cons, List.length_append, List.length_cons] at *; rw [ih]; simp [cellsV]; omega
theorem flatV_get : ∀ (l : List Va) (i : Nat), i < l.length → (flatV l)[i * 2]? = some (.string (vaAt l i).1) ∧ (flatV l)[i * 2 + 1]? = some (.int .i64 (vaAt l i).2)
  | [], i, h => absurd h (Nat.not_lt_zero _)
  | x :: l, 0, h => by simp [flatV, cellsV, vaAt]
  | x :: l, i + 1, h => by
    obtain ⟨h1, h2⟩ := flatV_get l i (by simpa using h)
    have e : flatV (x :: l) = .string x.1 :: .int .i64 x.2 :: flatV l := by simp [flatV, cellsV]
    rw [e]
    refine ⟨?_, ?_⟩
    · rw [show (i + 1) * 2 = i * 2 + 1 + 1 by omega]; simpa [vaAt] using h1
    · rw [show (i + 1) * 2 + 1 = i * 2 + 1 + 1 + 1 by omega]; simpa [vaAt] using h2
theorem newsV (w : World) (x y : Value) (T : TypeId) : ∀ (j : Nat) (u : Value), [x, y][j]? = some u → (w.alloc (.cells #[x, y] T)).cell? ((⟨w.heap.size, 0, none⟩ : Addr).add j) = some u := by
  intro j u hj
  match j, hj with
  | 0, hj => simp at hj; subst hj; simp [go_sem, Addr.add]
  | 1, hj => simp at hj; subst hj; simp [go_sem, Addr.add]
  | j + 2, hj => simp at hj
theorem newsV_one (s : ByteArray) (v : Int) : ∀ u ∈ [Value.string s, .int .i64 v], u.oneCell' = true := by
  intro u hu
  simp at hu
  rcases hu with rfl | rfl <;> rfl
theorem build_var (s : ByteArray) (v : Int) (w : World) : (Instr.build 79 #[(0, .string s), (1, .int .i64 v)]).run Try.prog w = .ok (.agg #[.string s, .int .i64 v]) w := by kernel_rfl
theorem owns_sliceV {w : World} {base : Nat} {e : TypeId} {size : Nat} {v : Value} {n : Nat} {xs : List Value} (h : w.ownsRow base e size v n xs) : ∃ a m c, v = .slice a m c := by
  rcases h.2 with ⟨rfl, _⟩ | ⟨g, cap, cur, rfl, _⟩
  · exact ⟨_, _, _, rfl⟩
  · exact ⟨_, _, _, rfl⟩
theorem ownsRow_belowV {w w' : World} {base : Nat} {e : TypeId} {size : Nat} {v : Value} {n : Nat} {xs : List Value} (h : w.ownsRow base e size v n xs) (hb : Below w.heap.size w w') : w'.ownsRow base e size v n xs := by
  obtain ⟨h1, h2⟩ := h
  refine ⟨h1, ?_⟩
  rcases h2 with h2 | ⟨g, cap, cur, hv, hg, hh, r⟩
  · exact .inl h2
  · exact .inr ⟨g, cap, cur, hv, hg, by rw [hb.block g (Array.getElem?_eq_some_iff.1 hh).1]; exact hh, r⟩

/-- The slice v holds texts, in order of the names ns. -/
def NamesAt (w : World) (v : Value) (ns : List (List UInt8)) : Prop := ∃ a cap, v = .slice a ns.length cap ∧ (0 < ns.length → ∃ b, a = some ⟨b, 0, none⟩ ∧ b < w.heap.size ∧ ∀ i, i < ns.length → w.cell? ⟨b, i, none⟩ = some (.string ⟨(nAt ns i).toArray⟩))
theorem names_of_owns {w : World} {base : Nat} {v : Value} {ns : List (List UInt8)} (h : w.ownsRow base 9 1 v ns.length (ns.map encStr)) : NamesAt w v ns := by
  have h0 := h
  obtain ⟨h1, ⟨h2, h3⟩ | ⟨b, cap, cur, rfl, hb, hh, hcap, hm, hc, ht⟩⟩ := h
  · exact ⟨none, 0, by rw [h2, h3], fun hp => absurd hp (by omega)⟩
  · refine ⟨_, cap, rfl, fun _ => ⟨b, rfl, (Array.getElem?_eq_some_iff.1 hh).1, fun i hi => ?_⟩⟩
    have e1 := h0.cellAt i (by omega)
    rw [List.getElem?_map, List.getElem?_eq_getElem hi] at e1
    simpa [nAt, hi] using e1

/-- The names of a map, in order. -/
theorem sortedN_any (b n : Nat) (f : ByteArray → Option Int) (w : World) (h : VMap w b n f) (hn : n ≤ 1048580) (hsz : ∀ s, (f s).isSome = true → s.size ≤ 1048576) :
    Calls Try.prog 77 #[.func (.func 104) #[] #[.pointer (some ⟨w.heap.size, 0, none⟩)]] (w.alloc (.cells #[.map (some b)] 83)) fun e w' => ∃ (v : Value) (ns : List (List UInt8)), e = .returned v ∧ NamesAt w' v ns ∧ VarsOf f (varsOfN f ns) ∧ ns.length ≤ n ∧ (∀ x ∈ ns, x.length ≤ 1048576) ∧ Below w.heap.size w w' := by
  obtain ⟨D, hown, hat⟩ := h
  have hsD := hown.size_le
  obtain ⟨_, hkl, hkm⟩ := mem_keys hown hat
  have bA : Below w.heap.size w (w.alloc (.cells #[.map (some b)] 83)) := (Below.refl _ _).alloc (Nat.le_refl _) _
  refine (callsIn_wide.1 (sortedS_in b n D KS w hown (by unfold maxLen; omega) (by omega))).mono ?_
  rintro e W1 ⟨kv, ss, rfl, hperm, hrow, hnil, hb1⟩
  have hl1 : (ss.mergeSort (fun x y => decide (x ≤ y))).length = ss.length := List.length_mergeSort _
  rw [← hl1] at hrow
  have hpm : (ss.mergeSort (fun x y => decide (x ≤ y))).Perm (strKeys D) := (List.mergeSort_perm _ _).trans hperm
  refine ⟨_, _, rfl, names_of_owns hrow, varsOfN_is hown hat hperm, ?_, fun x hx => ?_, bA.trans (hb1.mono bA.size)⟩
  · rw [hpm.length_eq]
    have e : (strKeys D).length = Maps.size D := by cases D <;> simp [strKeys, Maps.size]
    omega
  · have hx' := hpm.mem_iff.1 hx
    have := hsz _ ((hkm x (hkl x hx')).1 hx')
    simpa [ByteArray.size] using this

set_option maxHeartbeats 4000000 in
theorem varsList_own (b n : Nat) (f : ByteArray → Option Int) (w : World) (h : VMap w b n f) (hn : n ≤ 1048580) (hsz : ∀ s, (f s).isSome = true → s.size ≤ 1048576) :
    Calls Try.prog 49 #[.map (some b)] w fun e w' => ∃ v l, e = .returned v ∧ VarsOf f l ∧ l.length ≤ n ∧ w'.ownsRow w.heap.size 79 2 v l.length (flatV l) ∧ Below w.heap.size w w' := by
  have hbl := h.lt
  obtain ⟨ti, hI, hz0, hz1, hz2⟩ := info_parts infoVar
  have HZ : Hid (∀ s, (f s).isSome = true → s.size ≤ 1048576) := hsz
  clear hsz
  go_enter Try.func49, Try.ntmps49
  go_wp2_with (first | (go_at_call 78; refine (callsIn_wide.1 (keysS_in _ _)).mono ?_; rintro e w' ⟨rfl, rfl⟩) | (go_at_call 77; refine (sortedN_any b n f w h hn HZ.out).mono ?_; rintro e W1 ⟨kv, ns, rfl, ⟨ka, kc, rfl, hc⟩, hV, hsl, HN, b1⟩; have HNS : Hid (∀ x ∈ ns, x.length ≤ 1048576) := HN; clear HN))
  have hM1 : VMap W1 b n f := h.of_block (b1.block _ hbl)
  have hw1 := b1.size
  clear h HZ
  go_loopw [3, 10] (fun x i wr => ∃ (k : Nat), k ≤ ns.length ∧ i = .int .i64 k ∧ wr.ownsRow W1.heap.size 79 2 x k (flatV (varsOfN f (ns.take k))) ∧ Below W1.heap.size W1 wr) (fun _ i _ => ns.length - (intOf i).toNat)
  case atStart => exact ⟨0, Nat.zero_le _, rfl, World.ownsRow_nil _ _ _ _, Below.refl _ _⟩
  case round =>
    rename World => wo
    obtain ⟨k, hk, rfl, hrow, hb⟩ := hrel
    by_cases hlt : k < ns.length
    · obtain ⟨gk, rfl, hg2, hcc⟩ := hc (by omega)
      have c0 := cell_stays hb (hcc k hlt)
      have hmem : nAt ns k ∈ ns := by simp [nAt, List.getD, List.getElem?_eq_getElem hlt]
      have hnl : (ByteArray.mk (nAt ns k).toArray).size ≤ 1048576 := by simpa [ByteArray.size] using HNS.out _ hmem
      have hsn := varsOfN_snoc f ns hlt
      have i0' : (0 : Int) ≤ (k : Int) := by omega
      have i1' : (k : Int) < (ns.length : Int) := by omega
      have hzz := hb.size
      obtain ⟨xa, xn, xc, rfl⟩ : ∃ xa xn xc, u3 = Value.slice xa xn xc := owns_sliceV hrow
      have hob : ∀ j, (Value.slice xa xn xc).ownBlock = some j → W1.heap.size ≤ j ∧ j < wo.heap.size := fun j hj => hrow.lt j hj
      have S0 : ∀ x, wo.grownBy x (Value.slice xa xn xc).ownBlock → (Instr.lookup 83 (.map (some b)) (.string ⟨(nAt ns k).toArray⟩) false).run Try.prog x = .ok (.int .i64 ((f ⟨(nAt ns k).toArray⟩).getD 0)) x := fun x hx => by
        refine VMap.look (hM1.of_block ?_) (by unfold maxLen; omega)
        rw [hx.block b (by omega) (fun e => by have := (hob _ e.symm).1; omega)]
        exact hb.block b (by omega)
      have bD : wo.grownBy wo.drew (Value.slice xa xn xc).ownBlock := ⟨rfl, rfl, rfl, Nat.le_refl _, fun _ _ _ => rfl⟩
      clear hcc hc hmem hM1
      go_wp2_with fail
      refine region_last (fun x => (Instr.lookup 83 (.map (some b)) (.string ⟨(nAt ns k).toArray⟩) false).run Try.prog x = .ok (.int .i64 ((f ⟨(nAt ns k).toArray⟩).getD 0)) x) (by kernel_rfl) (by kernel_rfl) (by kernel_rfl) (S0 _ bD) (fun hHeld => ?_)
      simp only [List.dropLast, List.length_cons, List.length_nil, Nat.reduceAdd]
      refine takeL (i := 0) (v := ?_) rfl (by kernel_rfl) (by kernel_rfl) (by kernel_rfl) (fun _ _ _ h => h) rfl (by assumption) ?_ ?_
      rotate_left
      · (intro wS hSw; (try dsimp only at hSw); go_simp; try with_reducible rfl)
      (try simp only [Act.put, List.setIfInBounds_toArray, List.set_cons_zero, List.set_cons_succ])
      refine takeL (i := 1) (v := ?_) rfl (by kernel_rfl) (by kernel_rfl) (by kernel_rfl) (fun _ _ _ h => h) rfl (by assumption) ?_ ?_
      rotate_left
      · (intro wS hSw; (try dsimp only at hSw); go_simp; try with_reducible rfl)
      (try simp only [Act.put, List.setIfInBounds_toArray, List.set_cons_zero, List.set_cons_succ])
      refine takeL (i := 3) (v := ?_) rfl (by kernel_rfl) (by kernel_rfl) (by kernel_rfl) (fun _ _ _ h => h) rfl (by assumption) ?_ ?_
      rotate_left
      · (intro wS hSw; (try dsimp only at hSw); go_simp; try with_reducible rfl)
      (try simp only [Act.put, List.setIfInBounds_toArray, List.set_cons_zero, List.set_cons_succ])
      refine takeL (i := 4) (v := ?_) rfl (by kernel_rfl) (by kernel_rfl) (by kernel_rfl) (fun _ _ _ h => h) rfl (by assumption) ?_ ?_
      rotate_left
      · (intro wS hSw; (try dsimp only at hSw); go_simp; try with_reducible rfl)
      (try simp only [Act.put, List.setIfInBounds_toArray, List.set_cons_zero, List.set_cons_succ])
      refine takeL (i := 5) (v := ?_) rfl (by kernel_rfl) (by kernel_rfl) (by kernel_rfl) (fun _ _ _ h => h) rfl (by assumption) ?_ ?_
      rotate_left
      · (intro wS hSw; (try dsimp only at hSw); go_simp; try with_reducible rfl)
      (try simp only [Act.put, List.setIfInBounds_toArray, List.set_cons_zero, List.set_cons_succ])
      refine stepL (i := 2) rfl (by kernel_rfl) (fun K hK => ?_)
      rw [if_pos (by rfl)]
      go_simp
      refine (clone_any _ _ hnl).mono ?_
      rintro er w2 ⟨rfl, hb2⟩
      have b2 : Below wo.heap.size wo w2 := (Below.refl _ _).drew.trans hb2
      have g2 : wo.grownBy w2 (Value.slice xa xn xc).ownBlock := ⟨b2.os, b2.tape, b2.output, b2.size, fun j hj _ => b2.block j hj⟩
      have hrow2 := ownsRow_belowV hrow b2
      refine hK.out _ _ (S0 _ g2) (fun hHeld2 => ?_)
      clear hK K hHeld
      (try simp only [Act.put, List.setIfInBounds_toArray, List.set_cons_zero, List.set_cons_succ])
      have hbv := build_var ⟨(nAt ns k).toArray⟩ ((f ⟨(nAt ns k).toArray⟩).getD 0)
      refine takeL (i := 6) (v := ?_) rfl (by kernel_rfl) (by kernel_rfl) (by kernel_rfl) (fun _ _ _ h => h) rfl (by assumption) ?_ ?_
      rotate_left
      · (intro wS hSw; (try dsimp only at hSw); go_simp; try with_reducible rfl)
      (try simp only [Act.put, List.setIfInBounds_toArray, List.set_cons_zero, List.set_cons_succ])
      refine stepL (i := 7) rfl (by kernel_rfl) (fun K hK => ?_)
      rw [if_pos (by rfl)]
      go_simp
      have g7 := gb_trV g2 (World.grownBy_alloc _ (Obj.cells #[.string ⟨(nAt ns k).toArray⟩, .int .i64 ((f ⟨(nAt ns k).toArray⟩).getD 0)] 79) _)
      refine hK.out _ _ (S0 _ g7) (fun hHeld3 => ?_)
      clear hK K hHeld2
      (try simp only [Act.put, List.setIfInBounds_toArray, List.set_cons_zero, List.set_cons_succ])
      refine stepL (i := 8) rfl (by kernel_rfl) (fun K hK => ?_)
      refine step_append_lies _ (by rfl) _ _ _ (by rfl) W1.heap.size 79 ti _ 2 24 Try.underlying38 hI hz0 hz1 hz2 rfl (by omega) (.slice xa xn xc) k (flatV (varsOfN f (ns.take k))) (by rfl) (hrow2.alloc _) ⟨w2.heap.size, 0, none⟩ 1 1 (cellsV (⟨(nAt ns k).toArray⟩, (f ⟨(nAt ns k).toArray⟩).getD 0)) (by rfl) (by rfl) (newsV _ _ _ _) (newsV_one _ _) (by omega) (by unfold maxLen; omega) (by omega) (by have := b2.size; simp; omega) (w2.heap.size + 1) (by simp) ?_
      intro gg cap5 w5 hown5 hgrow5 hat5 hlt5
      have g8 := gb_trV g7 hgrow5
      refine hK.out _ _ (S0 _ g8) (fun hHeld4 => ?_)
      clear hK K hHeld3 hHeld4
      (try simp only [Act.put, List.setIfInBounds_toArray, List.set_cons_zero, List.set_cons_succ])
      refine wpAnyH_done (by kernel_rfl) ?_ _
      refine lastL (n := 9) rfl rfl ?_
      go_simp
      have hB5 : Below W1.heap.size W1 w5 := hb.grown g8 (by omega) (fun j hj => (hob j hj).1)
      have hrow5 : w5.ownsRow W1.heap.size 79 2 (.slice (some ⟨gg, 0, none⟩) (k + 1) cap5) (k + 1) (flatV (varsOfN f (ns.take (k + 1)))) := by
        rw [hsn, flatV_snoc]; exact hown5
      clear S0 hown5 hgrow5 g8 g7 g2 bD hbv b2 hb2 hrow2
      go_wp2
      go_roundw
      case rel => exact ⟨k + 1, by omega, by go_num, hrow5, hB5⟩
      case measure => simp [intOf]; omega
    · obtain rfl : k = ns.length := by omega
      rw [List.take_length] at hrow
      have hl : (varsOfN f ns).length = ns.length := by simp [varsOfN]
      go_wp2
      go_ret
      exact ⟨_, varsOfN f ns, rfl, hV, by omega, by rw [hl]; exact hrow.mono hw1, b1.trans (hb.mono hw1)⟩
end Go.Proofs.Ytgnfiakbcogdlan
