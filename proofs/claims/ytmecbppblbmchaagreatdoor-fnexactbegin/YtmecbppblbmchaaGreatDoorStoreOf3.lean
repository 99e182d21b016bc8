import Derived.Test.YtmecbppblbmchaaGreatDoorStoreOf2
/- impl.storeOf: the chains of a map, sorted by their keys, each list copied: the contract. -/
namespace Go.Proofs.YtmecbppblbmchaaGreatDoor
open Go.ChangeShapes Go.WideShapes Go.ChangeAt Go.RowKit Go.Maps Go.Sort
set_option linter.unusedVariables false
set_option maxRecDepth 100000
attribute [local go_sem ↓] Go.wp_at_zero Go.wp_at_succ

/-- Nothing that lay in W1 has turned but block B3. -/
def But (B3 : Nat) (W1 wr : World) : Prop := W1.grownBy wr (some B3)

theorem sortedKeys_any (g : Nat) (lb : Array Value) (eg : ∀ args w, (callFunc g args).run Tryz.prog w = .ok (.enter g args) w) (f : Int → Int → Option Value) (N : Nat) (hN : N ≤ 1000) (w : World) (hseq : SeqGives Fence.wide 1 Tryz.prog g lb encK (KeysAre f) N w) :
    Calls Tryz.prog 146 #[.func (.func g) #[] lb, .func (.func 123) #[] #[]] w fun e w' => ∃ (a : Option Addr) (cap : Nat) (ks : List (Int × Int)), e = .returned (.slice a ks.length cap) ∧ KeysAre f ks ∧ (ks.Pairwise fun x y => klB x.1 x.2 y.1 y.2 = true) ∧ ks.length ≤ 1000 ∧
      (0 < ks.length → ∃ gk off, a = some ⟨gk, off, none⟩ ∧ w.heap.size ≤ gk ∧ gk < w'.heap.size ∧ ∀ i, i < ks.length → w'.cell? ⟨gk, off + i * 2, none⟩ = some (.int .i64 (vAt ks i).1) ∧ w'.cell? ⟨gk, off + i * 2 + 1, none⟩ = some (.int .i64 (vAt ks i).2)) ∧ Below w.heap.size w w' := by
  refine (callsIn_wide.1 (sortedFunc_in 4 (by omega) g lb eg _ N (by omega) w hseq.bounded)).mono ?_
  rintro e W1 ⟨kv, ss, rfl, ⟨hss, hle⟩, hrow, hnil, hb1⟩
  obtain ⟨hK, hP⟩ := srtK_keys hss
  have hlen := lenK ss
  rw [← hlen] at hrow
  obtain ⟨a, cap, rfl, hm, hc⟩ := versAt_of_owns hrow (by unfold maxLen; omega)
  exact ⟨a, cap, srtK ss, rfl, hK, hP, by omega, hc, hb1⟩

theorem ownsRow_low {w w' : World} {base : Nat} {e : TypeId} {size : Nat} {v : Value} {n : Nat} {xs : List Value} (h : w.ownsRow base e size v n xs) (hb : Below w.heap.size w w') : w'.ownsRow base e size v n xs := by
  obtain ⟨h1, h2⟩ := h
  refine ⟨h1, ?_⟩
  rcases h2 with h2 | ⟨g, cap, cur, hv, hg, hh, r⟩
  · exact .inl h2
  · exact .inr ⟨g, cap, cur, hv, hg, by rw [hb.block g (Array.getElem?_eq_some_iff.1 hh).1]; exact hh, r⟩

theorem hS_of (b nn : Nat) (D : DataW Value) (f : Int → Int → Option Value) (w wr : World) (B3 : Nat) (ov : Value) (t r : Int) (v0 : Value) (base : Nat) (hown : w.ownsMap Tryz.prog 46 KV b nn D) (hat : At D f) (wt : wf t) (wr' : wf r) (hf0 : f t r = some v0)
    (bwr : Below w.heap.size w wr) (pv : wr.cell? ⟨B3, 0, none⟩ = some ov) (qv : wr.frozen? ⟨B3, 0, none⟩ = false) (hB3 : B3 < base) (hw : w.heap.size ≤ base) (hob : ∀ j, ov.ownBlock = some j → base ≤ j ∧ j < wr.heap.size) :
    ∀ x, (wr.alloc (Obj.cells #[Value.int IntKind.i64 t, Value.int IntKind.i64 r] 46)).grownBy x ov.ownBlock →
      x.cell? ⟨B3, 0, none⟩ = some ov ∧ x.frozen? ⟨B3, 0, none⟩ = false ∧ x.cell? ⟨wr.heap.size, 0, none⟩ = some (.int .i64 t) ∧ x.cell? ⟨wr.heap.size, 1, none⟩ = some (.int .i64 r) ∧ (Instr.lookup 169 (.map (some b)) (.agg #[.int .i64 t, .int .i64 r]) false).run Tryz.prog x = .ok v0 x := by
  intro x hx
  have bA := below_alloc wr (Obj.cells #[Value.int IntKind.i64 t, Value.int IntKind.i64 r] 46)
  have hbl := hown.lt
  have hwr := bwr.size
  have n1 : some B3 ≠ ov.ownBlock := fun e => by have := (hob B3 e.symm).1; omega
  have n2 : some wr.heap.size ≠ ov.ownBlock := fun e => by have := (hob _ e.symm).2; omega
  have n3 : some b ≠ ov.ownBlock := fun e => by have := (hob b e.symm).1; omega
  have l3 := cell_lt pv
  refine ⟨?_, ?_, ?_, ?_, ?_⟩
  · rw [hx.cell_far _ (by simp; exact Nat.lt_succ_of_lt l3) n1]; exact cell_stays bA pv
  · rw [hx.frozen_far _ (by simp; exact Nat.lt_succ_of_lt l3) n1, bA.frozen l3]; exact qv
  · rw [hx.cell_far _ (by simp) n2]; simp [go_sem]
  · rw [hx.cell_far _ (by simp) n2]; simp [go_sem]
  · have := look_vers (ownsMap_of_block hown ((hx.block b (by simp; omega) n3).trans ((bA.block b (by omega)).trans (bwr.block b hbl)))) hat wt wr'
    rw [hf0] at this
    exact this

theorem round_rel (W1 wr w5 w6 : World) (B3 : Nat) (ov : Value) (ks : List Vr) (g : Int → Int → List Vr) (Bs : Nat → Nat) (k gg cap5 : Nat) (o o5 : Obj) (B : Nat) (hB : W1.grownBy wr (some B3)) (hB3 : B3 < W1.heap.size)
    (hown4 : wr.ownsRow W1.heap.size 94 3 ov k (ccells ks g Bs k)) (hL : Lists W1.heap.size wr ov ks g Bs k) (hV5 : OwnV w5 B (lAt ks g k)) (hBq : B = wr.heap.size + 1) (hb5 : Below (wr.alloc o).drew.heap.size (wr.alloc o).drew w5)
    (hown6 : w6.ownsRow W1.heap.size 94 3 (.slice (some ⟨gg, 0, none⟩) (k + 1) cap5) (k + 1) (ccells ks g Bs k ++ [.int .i64 (vAt ks k).1, .int .i64 (vAt ks k).2, .slice (some ⟨wr.heap.size + 1, 0, none⟩) (lAt ks g k).length (lAt ks g k).length]))
    (hgrow : (w5.alloc o5).grownBy w6 ov.ownBlock) (hat6 : ov.ownBlock = some gg ∨ gg = w5.heap.size + 1) (p6 : w6.cell? ⟨B3, 0, none⟩ = some ov) (f6 : w6.frozen? ⟨B3, 0, none⟩ = false) :
    W1.grownBy (w6.setCell ⟨B3, 0, none⟩ (.slice (some ⟨gg, 0, none⟩) (k + 1) cap5)) (some B3) ∧ (w6.setCell ⟨B3, 0, none⟩ (.slice (some ⟨gg, 0, none⟩) (k + 1) cap5)).cell? ⟨B3, 0, none⟩ = some (.slice (some ⟨gg, 0, none⟩) (k + 1) cap5) ∧
      (w6.setCell ⟨B3, 0, none⟩ (.slice (some ⟨gg, 0, none⟩) (k + 1) cap5)).frozen? ⟨B3, 0, none⟩ = false ∧
      (w6.setCell ⟨B3, 0, none⟩ (.slice (some ⟨gg, 0, none⟩) (k + 1) cap5)).ownsRow W1.heap.size 94 3 (.slice (some ⟨gg, 0, none⟩) (k + 1) cap5) (k + 1) (ccells ks g (upd Bs k (wr.heap.size + 1)) (k + 1)) ∧
      Lists W1.heap.size (w6.setCell ⟨B3, 0, none⟩ (.slice (some ⟨gg, 0, none⟩) (k + 1) cap5)) (.slice (some ⟨gg, 0, none⟩) (k + 1) cap5) ks g (upd Bs k (wr.heap.size + 1)) (k + 1) := by
  subst hBq
  have hob : ∀ j, ov.ownBlock = some j → W1.heap.size ≤ j ∧ j < wr.heap.size := fun j hj => hown4.lt j hj
  have e1 : ∀ j, j ≠ B3 → (w6.setCell ⟨B3, 0, none⟩ (.slice (some ⟨gg, 0, none⟩) (k + 1) cap5)).heap[j]? = w6.heap[j]? := fun j hj => Below.heap_setCell _ _ _ _ hj
  have hA : wr.grownBy w6 ov.ownBlock := gb_trans (gb_trans (gb_trans (gb_below _ (below_alloc wr o).drew) (gb_below _ hb5)) (World.grownBy_alloc _ _ _)) hgrow
  have hs5 : wr.heap.size + 1 < w5.heap.size := hV5.lt
  have hsB := hB.size
  have hgg : W1.heap.size ≤ gg := by
    rcases hat6 with h | h
    · exact (hob gg h).1
    · omega
  refine ⟨⟨hA.os.trans hB.os, hA.tape.trans hB.tape, hA.output.trans hB.output, ?_, fun j hj hne => ?_⟩, ?_, ?_, ?_, ?_, ?_⟩
  · rw [size_setCell]; exact Nat.le_trans hB.size hA.size
  · have hj3 : j ≠ B3 := fun e => hne (by rw [e])
    rw [e1 j hj3, hA.block j (by omega) (fun e => by have := (hob j e.symm).1; omega), hB.block j hj hne]
  · exact World.cell?_setCell_same' _ _ _ (by rw [p6]; rfl)
  · rw [World.frozen?_setCell]; exact f6
  · rw [ccells_snoc]
    obtain ⟨h1, h2⟩ := hown6
    refine ⟨h1, ?_⟩
    rcases h2 with ⟨h2, _⟩ | ⟨g', cap', cur, hv, hg, hh, r⟩
    · cases h2
    · exact .inr ⟨g', cap', cur, hv, hg, by rw [e1 g' (by omega)]; exact hh, r⟩
  · intro i hi
    by_cases hik : i = k
    · subst hik
      rw [upd_same]
      refine ⟨?_, by omega, ?_⟩
      · refine hV5.of_block ?_
        rw [e1 _ (by omega), hgrow.block _ (by simp; omega) (fun e => by have := (hob _ e.symm).2; omega)]
        exact (below_alloc w5 o5).block _ hs5
      · intro e
        have e' : wr.heap.size + 1 = gg := by simpa [Value.ownBlock] using e
        rcases hat6 with h | h
        · have := (hob gg h).2; omega
        · omega
    · rw [upd_other Bs hik]
      obtain ⟨a1, a2, a3⟩ := hL.1 i (by omega)
      have al := a1.lt
      refine ⟨?_, a2, ?_⟩
      · refine a1.of_block ?_
        rw [e1 _ (by omega), hA.block _ al a3]
      · intro e
        have e' : Bs i = gg := by simpa [Value.ownBlock] using e
        rcases hat6 with h | h
        · exact a3 (by rw [h, e'])
        · omega
  · intro i j hij hj
    rw [upd_other Bs (show i ≠ k by omega)]
    by_cases hjk : j = k
    · subst hjk
      rw [upd_same]
      have := (hL.1 i (by omega)).1.lt
      omega
    · rw [upd_other Bs hjk]
      exact hL.2 i j hij (by omega)

theorem hS_of1 (b nn : Nat) (D : DataW Value) (f : Int → Int → Option Value) (w wr : World) (B3 : Nat) (ov : Value) (t r : Int) (v0 : Value) (base : Nat) (hown : w.ownsMap Tryz.prog 46 KV b nn D) (hat : At D f) (wt : wf t) (wr' : wf r) (hf0 : f t r = some v0)
    (bwr : Below w.heap.size w wr) (pv : wr.cell? ⟨B3, 0, none⟩ = some ov) (qv : wr.frozen? ⟨B3, 0, none⟩ = false) (hB3 : B3 < base) (hB3' : w.heap.size ≤ B3) (hw : w.heap.size ≤ base) (hob : ∀ j, ov.ownBlock = some j → base ≤ j ∧ j < wr.heap.size) :
    ∀ x u, (wr.alloc (Obj.cells #[Value.int IntKind.i64 t, Value.int IntKind.i64 r] 46)).grownBy x ov.ownBlock →
      (x.setCell ⟨B3, 0, none⟩ u).frozen? ⟨B3, 0, none⟩ = false ∧ (x.setCell ⟨B3, 0, none⟩ u).cell? ⟨wr.heap.size, 0, none⟩ = some (.int .i64 t) ∧ (x.setCell ⟨B3, 0, none⟩ u).cell? ⟨wr.heap.size, 1, none⟩ = some (.int .i64 r) ∧ (Instr.lookup 169 (.map (some b)) (.agg #[.int .i64 t, .int .i64 r]) false).run Tryz.prog (x.setCell ⟨B3, 0, none⟩ u) = .ok v0 (x.setCell ⟨B3, 0, none⟩ u) := by
  intro x u hx
  obtain ⟨s1, s2, s3, s4, s5⟩ := hS_of b nn D f w wr B3 ov t r v0 base hown hat wt wr' hf0 bwr pv qv hB3 hw hob x hx
  have bA := below_alloc wr (Obj.cells #[Value.int IntKind.i64 t, Value.int IntKind.i64 r] 46)
  have hbl := hown.lt
  have hwr := bwr.size
  have n3 : some b ≠ ov.ownBlock := fun e => by have := (hob b e.symm).1; omega
  have l3 := cell_lt pv
  have e1 : ∀ j, j ≠ B3 → (x.setCell ⟨B3, 0, none⟩ u).heap[j]? = x.heap[j]? := fun j hj => Below.heap_setCell _ _ _ _ hj
  refine ⟨by rw [World.frozen?_setCell]; exact s2, ?_, ?_, ?_⟩
  · exact cell_same (e1 _ (Nat.ne_of_gt l3)) s3
  · exact cell_same (e1 _ (Nat.ne_of_gt l3)) s4
  · have := look_vers (ownsMap_of_block hown ((e1 b (by omega)).trans ((hx.block b (by simp; omega) n3).trans ((bA.block b (by omega)).trans (bwr.block b hbl))))) hat wt wr'
    rw [hf0] at this
    exact this

set_option maxHeartbeats 4000000 in
theorem storeOf_own (b nn : Nat) (D : DataW Value) (f : Int → Int → Option Value) (g : Int → Int → List Vr) (w : World) {lo hi : Nat} (hown : w.ownsMap Tryz.prog 46 KV b nn D) (hat : At D f)
    (hv : ∀ t r, wf t → wf r → ∀ v, f t r = some v → VersAt lo hi w v (g t r) ∧ (g t r).length ≤ 1048576) (hsz : Maps.size D ≤ 1000) :
    Calls Tryz.prog 130 #[.map (some b)] w fun e w' => ∃ v ks, e = .returned (.agg #[v]) ∧ KeysAre f ks ∧ (ks.Pairwise fun x y => klB x.1 x.2 y.1 y.2 = true) ∧ OwnS w.heap.size w' v (chainsOf ks g) ∧ Below w.heap.size w w' := by
  obtain ⟨i0, hI, hz0, hz1, hz2⟩ := info_parts infoChain'
  have hbl := hown.lt
  have ek : ∀ args w, (callFunc 155 args).run Tryz.prog w = .ok (.enter 155 args) w := enters_of Tryz.func155 (by kernel_rfl) rfl
  have hbA : ∀ o1 o2 o3, Below w.heap.size w (((w.alloc o1).alloc o2).alloc o3) := fun o1 o2 o3 => (((Below.refl _ _).alloc (Nat.le_refl _) _).alloc (by simp) _).alloc (by simp; omega) _
  have hseq : ∀ o1 o2, SeqGives Fence.wide 1 Tryz.prog 155 #[.pointer (some ⟨w.heap.size + 2, 0, none⟩)] encK (KeysAre f) (Maps.size D) (((w.alloc o1).alloc o2).alloc (.cells #[.map (some b)] 169)) := fun o1 o2 =>
    keys_gives 1 (by omega) (w.heap.size + 2) b nn D f hat _ (by simp) (by simp [go_sem]) (ownsMap_of_block hown ((hbA _ _ _).block b hbl))
  have HV : Hid (∀ t r, wf t → wf r → ∀ v, f t r = some v → VersAt lo hi w v (g t r) ∧ (g t r).length ≤ 1048576) := hv
  have HS : Hid (∀ o1 o2, SeqGives Fence.wide 1 Tryz.prog 155 #[.pointer (some ⟨w.heap.size + 2, 0, none⟩)] encK (KeysAre f) (Maps.size D) (((w.alloc o1).alloc o2).alloc (.cells #[.map (some b)] 169))) := hseq
  have HA : Hid (∀ o1 o2 o3, Below w.heap.size w (((w.alloc o1).alloc o2).alloc o3)) := hbA
  clear hv hseq hbA
  go_enter Tryz.func130, Tryz.ntmps130
  go_wp2_with (first | (go_at_call 147; refine (callsIn_wide.1 (keys_in 0 _ _)).mono ?_; rintro e w' ⟨rfl, rfl⟩) | (go_at_call 146; refine (sortedKeys_any _ _ ek f _ hsz _ (HS.out _ _)).mono ?_; rintro e W1 ⟨a, cap, ks, rfl, hK, hP, hkl, hc, hb1⟩))
  have bW := (HA.out _ _ _).trans (hb1.mono (HA.out _ _ _).size)
  have p3 : W1.cell? ⟨w.heap.size + 1, 0, none⟩ = some (.slice none 0 0) := cell_stays hb1 (by simp [go_sem])
  have p2 : W1.cell? ⟨w.heap.size, 0, none⟩ = some (.slice none 0 0) := cell_stays hb1 (by simp [go_sem])
  have q3 : W1.frozen? ⟨w.heap.size + 1, 0, none⟩ = false := by rw [hb1.frozen (by simp)]; simp [go_sem]
  have q2 : W1.frozen? ⟨w.heap.size, 0, none⟩ = false := by rw [hb1.frozen (by simp; omega)]; simp [go_sem]
  have hs1 : w.heap.size + 3 ≤ W1.heap.size := by have := hb1.size; simp at this; omega
  have hc' : 0 < ks.length → ∃ gk off, a = some ⟨gk, off, none⟩ ∧ w.heap.size + 3 ≤ gk ∧ gk < W1.heap.size ∧ ∀ i, i < ks.length → W1.cell? ⟨gk, off + i * 2, none⟩ = some (.int .i64 (vAt ks i).1) ∧ W1.cell? ⟨gk, off + i * 2 + 1, none⟩ = some (.int .i64 (vAt ks i).2) := fun hp => by
    obtain ⟨gk, off, h1, h2, h3, h4⟩ := hc hp
    exact ⟨gk, off, h1, by simp at h2; omega, h3, h4⟩
  clear hc hb1 HS HA
  go_loopw [10] (fun i wr => ∃ (k : Nat) (ov : Value) (Bs : Nat → Nat), k ≤ ks.length ∧ i = .int .i64 k ∧ W1.grownBy wr (some (w.heap.size + 1)) ∧ wr.cell? ⟨w.heap.size + 1, 0, none⟩ = some ov ∧ wr.frozen? ⟨w.heap.size + 1, 0, none⟩ = false ∧ wr.ownsRow W1.heap.size 94 3 ov k (ccells ks g Bs k) ∧ Lists W1.heap.size wr ov ks g Bs k) (fun i _ => ks.length - (intOf i).toNat)
  case atStart => exact ⟨0, _, fun _ => 0, Nat.zero_le _, rfl, gb_below _ (Below.refl _ _), p3, q3, World.ownsRow_nil _ _ _ _, fun i hi => absurd hi (Nat.not_lt_zero _), fun i j h1 h2 => absurd h2 (Nat.not_lt_zero _)⟩
  case round =>
    obtain ⟨k, ov, Bs, hk, rfl, hB, pv, qv, hown4, hL⟩ := hrel
    by_cases hlt : k < ks.length
    · obtain ⟨gk, off, rfl, hg1, hg2, hcc⟩ := hc' (by omega)
      have c0 : wr.cell? ⟨gk, off + k * 2, none⟩ = some (.int .i64 (vAt ks k).1) := (hB.cell_far _ hg2 (by intro e; injection e with e; simp at e; omega)).trans (hcc k hlt).1
      have c1 : wr.cell? ⟨gk, off + k * 2 + 1, none⟩ = some (.int .i64 (vAt ks k).2) := (hB.cell_far _ hg2 (by intro e; injection e with e; simp at e; omega)).trans (hcc k hlt).2
      have hmem : vAt ks k ∈ ks := by simp [vAt, List.getD, List.getElem?_eq_getElem hlt]
      obtain ⟨wt, wr'⟩ := hK.2.1 _ hmem
      obtain ⟨v0, hf0⟩ := Option.isSome_iff_exists.1 ((hK.2.2 (vAt ks k).1 (vAt ks k).2 wt wr').1 hmem)
      obtain ⟨hv0, hl0⟩ := HV.out _ _ wt wr' v0 hf0
      have bwr : Below w.heap.size w wr := bW.trans ⟨hB.os, hB.tape, hB.output, hB.size, fun j hj => hB.block j (by omega) (by intro e; injection e with e; omega)⟩
      have hs2 := hB.size
      have hob : ∀ j, ov.ownBlock = some j → W1.heap.size ≤ j ∧ j < wr.heap.size := fun j hj => hown4.lt j hj
      have hs0 := hS_of b nn D f w wr (w.heap.size + 1) ov (vAt ks k).1 (vAt ks k).2 v0 W1.heap.size hown hat wt wr' hf0 bwr pv qv (by omega) (by omega) hob
      have HS0 : Hid (∀ x, (wr.alloc (Obj.cells #[Value.int IntKind.i64 (vAt ks k).1, Value.int IntKind.i64 (vAt ks k).2] 46)).grownBy x ov.ownBlock → _) := hs0
      have hs1' := hS_of1 b nn D f w wr (w.heap.size + 1) ov (vAt ks k).1 (vAt ks k).2 v0 W1.heap.size hown hat wt wr' hf0 bwr pv qv (by omega) (by omega) (by omega) hob
      have HS1 : Hid (∀ x u, (wr.alloc (Obj.cells #[Value.int IntKind.i64 (vAt ks k).1, Value.int IntKind.i64 (vAt ks k).2] 46)).grownBy x ov.ownBlock → _) := hs1'
      have bA := below_alloc wr (Obj.cells #[Value.int IntKind.i64 (vAt ks k).1, Value.int IntKind.i64 (vAt ks k).2] 46)
      have hv1 := (hv0.stays bwr).stays bA
      have pA : (wr.alloc (Obj.cells #[Value.int IntKind.i64 (vAt ks k).1, Value.int IntKind.i64 (vAt ks k).2] 46)).cell? ⟨w.heap.size + 1, 0, none⟩ = some ov := cell_stays bA pv
      have pD : (wr.alloc (Obj.cells #[Value.int IntKind.i64 (vAt ks k).1, Value.int IntKind.i64 (vAt ks k).2] 46)).drew.cell? ⟨w.heap.size + 1, 0, none⟩ = some ov := pA
      clear hcc hc' hs0 hs1' hK hP HV hat hown hmem hf0 hv0
      change VersAt lo hi _ v0 (lAt ks g k) at hv1
      change (lAt ks g k).length ≤ 1048576 at hl0
      go_wp2_with fail
      obtain ⟨pD', fD, kD0, kD1, lkD⟩ := HS0.out _ (gb_below _ (Below.refl _ _).drew)
      go_region_law ((first | (refine step_append_lies _ (by rfl) _ _ _ (by rfl) W1.heap.size 94 i0 _ 3 40 Tryz.underlying30 hI hz0 hz1 hz2 rfl (by omega) ov k (ccells ks g Bs k) (by rfl) (((ownsRow_low (hown4.alloc _).drew hb5)).alloc _) ⟨w5.heap.size, 0, none⟩ 1 1 [.int .i64 (vAt ks k).1, .int .i64 (vAt ks k).2, .slice (some ⟨wr.heap.size + 1, 0, none⟩) (lAt ks g k).length (lAt ks g k).length] (by rfl) (by rfl) (World.news_of_block (heap_alloc_new w5 _)) (by simp [Value.oneCell']) (by omega) (by unfold maxLen; omega) (by omega) (by have := hb5.size; simp at this ⊢; omega) (w5.heap.size + 1) (by simp) ?_; intro gg cap5 w6 hown6 hgrow hat6 hlt6; obtain ⟨p6, f6, _⟩ := HS0.out _ (gb_trans (gb_trans (gb_trans (gb_below _ (Below.refl _ _).drew) (gb_below _ hb5)) (World.grownBy_alloc _ _ _)) hgrow)) | (rw [if_pos (by rfl)]; go_simp; go_at_call 104; refine (copyVers_own _ (lAt ks g k) _ (hv1.stays (Below.refl _ _).drew) hl0).mono ?_; rintro e w5 ⟨rfl, hV5, hb5⟩; obtain ⟨p5, f5, k50, k51, _⟩ := HS0.out _ (gb_trans (gb_below _ (Below.refl _ _).drew) (gb_below _ hb5)); have p5a : ∀ o, (w5.alloc o).cell? ⟨w.heap.size + 1, 0, none⟩ = some ov := fun o => cell_stays (below_alloc w5 o) p5; simp only [])))
      all_goals (
        go_wp2
        go_roundw
        case rel =>
          obtain ⟨r1, r2, r3, r4, r5⟩ := round_rel W1 wr w5 w6 (w.heap.size + 1) ov ks g Bs k gg cap5 _ _ _ hB (by omega) hown4 hL hV5 (by simp) hb5 hown6 hgrow hat6 p6 f6
          exact ⟨k + 1, _, _, by omega, by go_num, r1, r2, r3, r4, r5⟩
        case measure => simp [intOf]; omega)
    · obtain rfl : k = ks.length := by omega
      have b2 : wr.cell? ⟨w.heap.size, 0, none⟩ = some (.slice none 0 0) := (hB.cell_far _ (by show w.heap.size < _; omega) (by intro e; injection e with e; simp at e)).trans p2
      have d2 : wr.frozen? ⟨w.heap.size, 0, none⟩ = false := (hB.frozen_far _ (by show w.heap.size < _; omega) (by intro e; injection e with e; simp at e)).trans q2
      have bwr : Below w.heap.size w wr := bW.trans ⟨hB.os, hB.tape, hB.output, hB.size, fun j hj => hB.block j (by omega) (by intro e; injection e with e; omega)⟩
      obtain ⟨a4, c4, rfl⟩ : ∃ a4 c4, ov = .slice a4 ks.length c4 := by
        rcases hown4.2 with ⟨h1, h2⟩ | ⟨g', cap', cur, hv, _⟩
        · exact ⟨none, 0, by rw [h1, h2]⟩
        · exact ⟨_, _, hv⟩
      have e1 : ∀ u j, W1.heap.size ≤ j → (wr.setCell ⟨w.heap.size, 0, none⟩ u).heap[j]? = wr.heap[j]? := fun u j hj => Below.heap_setCell _ _ _ _ (show j ≠ w.heap.size by omega)
      have hO : ∀ u, OwnS w.heap.size (wr.setCell ⟨w.heap.size, 0, none⟩ u) (.slice a4 ks.length c4) (chainsOf ks g) := fun u => by
        refine ownS_of (base := W1.heap.size) (by omega) ⟨hown4.1, ?_⟩ ⟨fun i hi => ?_, hL.2⟩
        · rcases hown4.2 with h | ⟨g', cap', cur, hv, hg, hh, r⟩
          · exact .inl h
          · exact .inr ⟨g', cap', cur, hv, hg, by rw [e1 u g' hg]; exact hh, r⟩
        · obtain ⟨a1, a2, a3⟩ := hL.1 i hi
          exact ⟨a1.of_block (e1 u _ a2), a2, a3⟩
      have HO : Hid (∀ u, OwnS w.heap.size (wr.setCell ⟨w.heap.size, 0, none⟩ u) (.slice a4 ks.length c4) (chainsOf ks g)) := hO
      clear hc' hO e1 hL hown4
      go_wp2
      refine bodyPost_ret (v := .agg #[.slice a4 ks.length c4]) ?_ rfl ⟨_, ks, rfl, hK, hP, HO.out _, bwr.setCell (Nat.le_refl _) _⟩
      simp [results, Tryz.results130, go_sem, b2]

end Go.Proofs.YtmecbppblbmchaaGreatDoor
