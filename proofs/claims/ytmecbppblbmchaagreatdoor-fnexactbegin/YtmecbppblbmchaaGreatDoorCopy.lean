import Derived.Test.YtmecbppblbmchaaGreatDoorRows
import Derived.Test.YtmecbppblbmchaaGreatDoorCopy0
import Derived.Outline
import Derived.Deep.RegionHeld3
import Derived.Deep.DrawnRows
/- The copying functions of the exact laws: what they hand back holds the same data, in new memory. -/
namespace Go.Proofs.YtmecbppblbmchaaGreatDoor
open Go.ChangeShapes Go.WideShapes Go.ChangeAt Go.RowKit
set_option linter.unusedVariables false
set_option maxRecDepth 100000
attribute [local go_sem ↓] Go.wp_at_zero Go.wp_at_succ

theorem toKey_any (a b : Int) (w : World) :
    Calls Tryz.prog 16 #[.agg #[.int .i64 a, .int .i64 b]] w fun e w' => e = .returned (.agg #[.int .i64 a, .int .i64 b]) ∧ Below w.heap.size w w' := by
  go_enter Tryz.func16, Tryz.ntmps16
  go_wp2
  refine bodyPost_ret (v := .agg #[.int .i64 a, .int .i64 b]) (by simp [results, Tryz.results16, go_sem]) rfl ⟨rfl, ?_⟩
  exact ((((Below.refl _ _).alloc (Nat.le_refl _) _).alloc (by simp) _).alloc (by simp; omega) _)

theorem toVer_any (a b : Int) (w : World) :
    Calls Tryz.prog 149 #[.agg #[.int .i64 a, .int .i64 b]] w fun e w' => e = .returned (.agg #[.int .i64 a, .int .i64 b]) ∧ Below w.heap.size w w' := by
  go_enter Tryz.func149, Tryz.ntmps149
  go_wp2
  refine bodyPost_ret (v := .agg #[.int .i64 a, .int .i64 b]) (by simp [results, Tryz.results149, go_sem]) rfl ⟨rfl, ?_⟩
  exact ((((Below.refl _ _).alloc (Nat.le_refl _) _).alloc (by simp) _).alloc (by simp; omega) _)

theorem toVerS_any (v : Value) (l : List Vr) (w : World) {lo hi : Nat} (h : VersAt lo hi w v l) (hn : l.length ≤ 1048576) :
    Calls Tryz.prog 135 #[v] w fun e w' => ∃ a c, e = .returned (.slice a l.length c) ∧ VersAt w.heap.size w'.heap.size w' (.slice a l.length c) l ∧ Below w.heap.size w w' := by
  obtain ⟨a, cap, rfl, hm, hc⟩ := h
  have hmk := make_vers l.length hn
  go_enter Tryz.func135, Tryz.ntmps135
  go_wp2
  go_loopw [4] (fun i wr => ∃ (k : Nat) (f : Nat → Value), k ≤ l.length ∧ i = .int .i64 k ∧ Below w.heap.size w wr ∧ wr.rowIs w.heap.size 123 (l.length * 2) f ∧
      ∀ j, j < k → f (j * 2) = .int .i64 (vAt l j).1 ∧ f (j * 2 + 1) = .int .i64 (vAt l j).2) (fun i _ => l.length - (intOf i).toNat)
  case atStart =>
    exact ⟨0, _, Nat.zero_le _, rfl, (Below.refl _ _).alloc (Nat.le_refl _) _, ⟨_, Deep.blk_alloc_new _ _, size_madeCells _ _, fun i hi => by simp [madeCells, hi]; rfl⟩, fun j hj => absurd hj (Nat.not_lt_zero _)⟩
  case round =>
    obtain ⟨k, f, hk, rfl, hb, hrow, hf⟩ := hrel
    by_cases hlt : k < l.length
    · obtain ⟨b, off, rfl, hlo, hhi, hcc⟩ := hc (by omega)
      have c0 := cell_stays hb (hcc k hlt).1
      have c1 := cell_stays hb (hcc k hlt).2
      clear hcc hc
      go_wp2_with (go_at_call 149; refine (toVer_any _ _ _).mono ?_; rintro e w1 ⟨rfl, hb1⟩; have r1 := hrow.of_block (hb1.block _ hrow.lt); have z0 := r1.cell (show k * 2 < l.length * 2 by omega); have z1 := r1.frozen (k * 2); have z2 := r1.cell (show k * 2 + 1 < l.length * 2 by omega); have z3 := r1.frozen (k * 2 + 1))
      go_roundw
      case rel =>
        refine ⟨k + 1, _, by omega, by go_num, ((hb.trans (hb1.mono hb.size)).setCell (Nat.le_refl _) _).setCell (Nat.le_refl _) _, (r1.set _ _).set _ _, fun j hj => ?_⟩
        by_cases e : j = k
        · subst e; simp
        · have := hf j (by omega)
          rw [if_neg (by omega), if_neg (by omega), if_neg (by omega), if_neg (by omega)]
          exact this
      case measure => simp [intOf]; omega
    · have hkl : k = l.length := by omega
      go_wp2
      go_ret
      refine ⟨_, _, rfl, ⟨_, _, rfl, hm, fun hp => ⟨_, _, rfl, Nat.le_refl _, hrow.lt, fun i hi => ?_⟩⟩, hb⟩
      have h1 := hrow.cell (show i * 2 < l.length * 2 by omega)
      have h2 := hrow.cell (show i * 2 + 1 < l.length * 2 by omega)
      rw [(hf i (by omega)).1] at h1
      rw [(hf i (by omega)).2] at h2
      exact ⟨by simpa using h1, by simpa using h2⟩

theorem toChain_any (t r : Int) (v : Value) (l : List Vr) (w : World) {lo hi : Nat} (h : VersAt lo hi w v l) (hn : l.length ≤ 1048576) :
    Calls Tryz.prog 101 #[.agg #[.int .i64 t, .int .i64 r, v]] w fun e w' => ∃ a c, e = .returned (.agg #[.int .i64 t, .int .i64 r, .slice a l.length c]) ∧ VersAt w.heap.size w'.heap.size w' (.slice a l.length c) l ∧ Below w.heap.size w w' := by
  obtain ⟨a, cap, hv⟩ : ∃ a cap, v = .slice a l.length cap := by obtain ⟨a, cap, h1, _⟩ := h; exact ⟨a, cap, h1⟩
  subst hv
  go_enter Tryz.func101, Tryz.ntmps101
  go_wp2_with (first | (go_at_call 16; refine (toKey_any _ _ _).mono ?_; rintro e w1 ⟨rfl, hb1⟩; obtain ⟨hc1, hf1⟩ := bcell hb1; have hz1 : w.heap.size + 1 + 1 < w1.heap.size := by { have := hb1.size; simp at this; omega }; have hz1a : w.heap.size + 1 < w1.heap.size := by omega) | (go_at_call 135; fail))
  have hbx : Below w.heap.size w ((w1.setCell ⟨w.heap.size + 1 + 1, 0, none⟩ (.int .i64 t)).setCell ⟨w.heap.size + 1 + 1, 1, none⟩ (.int .i64 r)) :=
    ((((((Below.refl _ _).alloc (Nat.le_refl _) _).alloc (by simp) _).alloc (by simp; omega) _).trans (hb1.mono (by simp; omega))).setCell (by simp; omega) _).setCell (by simp; omega) _
  refine (toVerS_any _ l _ (h.stays hbx) hn).mono ?_
  rintro e w2 ⟨a', c', rfl, hv, hb2⟩
  obtain ⟨hc2, hf2⟩ := bcell hb2
  have hz2 : w.heap.size + 1 + 1 < w2.heap.size := by have := hb2.size; simp [World.setCell] at this; omega
  go_wp2
  refine bodyPost_ret (v := .agg #[.int .i64 t, .int .i64 r, .slice a' l.length c']) (by simp [results, Tryz.results101, go_sem, hc2, hc1, hz1a]) rfl ⟨_, _, rfl, ?_, ?_⟩
  · refine (hv.keep fun b hb _ _ => ?_).wide (by simp only [size_setCell]; omega) (by simp only [size_setCell]; omega)
    simp only [size_setCell] at hb
    iterate 4 rw [Below.heap_setCell _ _ _ _ (by simp; omega)]
  · exact ((((hbx.trans (hb2.mono (by simp only [size_setCell]; omega))).setCell (by simp; omega) _).setCell (by simp) _).setCell (by simp) _).setCell (by simp) _

theorem toChainS_any (v : Value) (l : List Ch) (w : World) {lo hi : Nat} (h : ChainsAt lo hi w v l) (hn : Small l) :
    Calls Tryz.prog 62 #[v] w fun e w' => ∃ a c, e = .returned (.slice a l.length c) ∧ ChainsAt w.heap.size w'.heap.size w' (.slice a l.length c) l ∧ Below w.heap.size w w' := by
  obtain ⟨a, cap, rfl, hm, hc⟩ := h
  have hn1 := hn.1
  have hmk := make_chains l.length hn1
  go_enter Tryz.func62, Tryz.ntmps62
  go_wp2
  go_loopw [4] (fun i wr => ∃ (k : Nat) (f : Nat → Value), k ≤ l.length ∧ i = .int .i64 k ∧ Below w.heap.size w wr ∧ wr.rowIs w.heap.size 94 (l.length * 3) f ∧
      ∀ j, j < k → f (j * 3) = .int .i64 (cAt l j).t ∧ f (j * 3 + 1) = .int .i64 (cAt l j).r ∧ ∃ a c, f (j * 3 + 1 + 1) = .slice a (cAt l j).l.length c ∧ VersAt (w.heap.size + 1) wr.heap.size wr (.slice a (cAt l j).l.length c) (cAt l j).l) (fun i _ => l.length - (intOf i).toNat)
  case atStart =>
    exact ⟨0, _, Nat.zero_le _, rfl, (Below.refl _ _).alloc (Nat.le_refl _) _, ⟨_, Deep.blk_alloc_new _ _, size_madeCells _ _, fun i hi => by simp [madeCells, hi]; rfl⟩, fun j hj => absurd hj (Nat.not_lt_zero _)⟩
  case round =>
    obtain ⟨k, f, hk, rfl, hb, hrow, hf⟩ := hrel
    by_cases hlt : k < l.length
    · obtain ⟨b, off, rfl, hlo, hhi, hcc⟩ := hc (by omega)
      obtain ⟨c0, c1, a2, cap2, c2, c3⟩ := hcc k hlt
      have c0 := cell_stays hb c0
      have c1 := cell_stays hb c1
      have c2 := cell_stays hb c2
      have c3 := c3.stays hb
      have hn2 := hn.2 k hlt
      clear hcc hc
      go_wp2_with (go_at_call 101; refine (toChain_any _ _ _ _ _ c3 hn2).mono ?_; rintro e w1 ⟨a3, cap3, rfl, hv, hb1⟩; have r1 := hrow.of_block (hb1.block _ hrow.lt); have z0 := r1.cell (show k * 3 < l.length * 3 by omega); have z1 := r1.frozen (k * 3); have z2 := r1.cell (show k * 3 + 1 < l.length * 3 by omega); have z3 := r1.frozen (k * 3 + 1); have z4 := r1.cell (show k * 3 + 1 + 1 < l.length * 3 by omega); have z5 := r1.frozen (k * 3 + 1 + 1))
      have hlt' := hrow.lt
      go_roundw
      case rel =>
        refine ⟨k + 1, _, by omega, by go_num, (((hb.trans (hb1.mono hb.size)).setCell (Nat.le_refl _) _).setCell (Nat.le_refl _) _).setCell (Nat.le_refl _) _, ((r1.set _ _).set _ _).set _ _, fun j hj => ?_⟩
        have hs : ∀ b, w.heap.size + 1 ≤ b → (((w1.setCell ⟨w.heap.size, k * 3, none⟩ (Value.int IntKind.i64 (cAt l k).t)).setCell ⟨w.heap.size, k * 3 + 1, none⟩ (Value.int IntKind.i64 (cAt l k).r)).setCell ⟨w.heap.size, k * 3 + 2, none⟩ (Value.slice a3 (cAt l k).l.length cap3)).heap[b]? = w1.heap[b]? := fun b hb => by
          iterate 3 rw [Below.heap_setCell _ _ _ _ (by simp; omega)]
        by_cases e : j = k
        · subst e
          exact ⟨by simp, by simp, a3, cap3, by simp, (((hv.wide (show w.heap.size + 1 ≤ wr.heap.size by omega) (Nat.le_refl _)).keep fun b hb _ _ => hs b hb)).wide (Nat.le_refl _) (by simp only [size_setCell]; omega)⟩
        · obtain ⟨g1, g2, ga, gc, g3, g4⟩ := hf j (by omega)
          refine ⟨?_, ?_, ga, gc, ?_, (((g4.stays hb1).keep fun b hb _ _ => hs b hb)).wide (Nat.le_refl _) (by simp only [size_setCell]; exact hb1.size)⟩
          · rw [if_neg (by omega), if_neg (by omega), if_neg (by omega)]; exact g1
          · rw [if_neg (by omega), if_neg (by omega), if_neg (by omega)]; exact g2
          · rw [if_neg (by omega), if_neg (by omega), if_neg (by omega)]; exact g3
      case measure => simp [intOf]; omega
    · have hkl : k = l.length := by omega
      go_wp2
      go_ret
      refine ⟨_, _, rfl, ⟨_, _, rfl, hm, fun hp => ⟨_, _, rfl, Nat.le_refl _, hrow.lt, fun i hi => ?_⟩⟩, hb⟩
      have h1 := hrow.cell (show i * 3 < l.length * 3 by omega)
      have h2 := hrow.cell (show i * 3 + 1 < l.length * 3 by omega)
      have h3 := hrow.cell (show i * 3 + 1 + 1 < l.length * 3 by omega)
      obtain ⟨g1, g2, ga, gc, g3, g4⟩ := hf i (by omega)
      rw [g1] at h1
      rw [g2] at h2
      rw [g3] at h3
      exact ⟨by simpa using h1, by simpa using h2, ga, gc, by simpa using h3, g4.wide (by omega) (Nat.le_refl _)⟩

theorem toStore_any (v : Value) (l : List Ch) (w : World) {lo hi : Nat} (h : ChainsAt lo hi w v l) (hn : Small l) :
    Calls Tryz.prog 30 #[.agg #[v]] w fun e w' => ∃ a c, e = .returned (.agg #[.slice a l.length c]) ∧ ChainsAt w.heap.size w'.heap.size w' (.slice a l.length c) l ∧ Below w.heap.size w w' := by
  obtain ⟨a, cap, hv⟩ : ∃ a cap, v = .slice a l.length cap := by obtain ⟨a, cap, h1, _⟩ := h; exact ⟨a, cap, h1⟩
  subst hv
  go_enter Tryz.func30, Tryz.ntmps30
  go_wp2_with fail
  have hbx : Below w.heap.size w (((w.alloc (Obj.cells #[Value.slice a l.length cap] 24)).alloc (Obj.cells #[Value.slice none 0 0] 32)).alloc (Obj.cells #[Value.slice none 0 0] 32)) :=
    (((Below.refl _ _).alloc (Nat.le_refl _) _).alloc (by simp) _).alloc (by simp; omega) _
  refine (toChainS_any _ l _ (h.stays hbx) hn).mono ?_
  rintro e w2 ⟨a', c', rfl, hv, hb2⟩
  obtain ⟨hc2, hf2⟩ := bcell hb2
  have hz2 : w.heap.size + 1 + 1 < w2.heap.size := by have := hb2.size; simp at this; omega
  go_wp2
  refine bodyPost_ret (v := .agg #[.slice a' l.length c']) (by simp [results, Tryz.results30, go_sem, hc2]) rfl ⟨_, _, rfl, ?_, ?_⟩
  · refine (hv.keep fun b hb _ _ => ?_).wide (by simp; omega) (by simp only [size_setCell]; omega)
    simp at hb
    iterate 2 rw [Below.heap_setCell _ _ _ _ (by simp; omega)]
  · exact ((hbx.trans (hb2.mono (by simp; omega))).setCell (by simp; omega) _).setCell (by simp) _

/-! ### The sizes -/

theorem szVerS_any (v : Value) (l : List Vr) (w : World) {lo hi : Nat} (h : VersAt lo hi w v l) (left : Int) (h0 : 0 ≤ left) (h1 : left ≤ 1048576) :
    Calls Tryz.prog 134 #[v, .int .i64 left] w fun e w' => ∃ r, e = .returned (.int .i64 r) ∧ r ≤ left ∧ (0 ≤ r → l.length ≤ 1048576) ∧ w' = w := by
  obtain ⟨a, cap, rfl, hm, hc⟩ := h
  clear hc
  unfold maxLen at hm
  by_cases hlt : left - l.length < 0
  · go_enter Tryz.func134, Tryz.ntmps134
    go_wp2
    go_ret
    exact ⟨_, rfl, by omega, by omega, rfl⟩
  · go_enter Tryz.func134, Tryz.ntmps134
    go_wp2
    go_ret
    exact ⟨_, rfl, by omega, by omega, rfl⟩

theorem szChain_any (t r : Int) (v : Value) (l : List Vr) (w : World) {lo hi : Nat} (h : VersAt lo hi w v l) (left : Int) (h0 : 0 ≤ left) (h1 : left ≤ 1048576) :
    Calls Tryz.prog 97 #[.agg #[.int .i64 t, .int .i64 r, v], .int .i64 left] w fun e w' => ∃ q, e = .returned (.int .i64 q) ∧ q ≤ left ∧ (0 ≤ q → l.length ≤ 1048576) ∧ Below w.heap.size w w' := by
  obtain ⟨a, cap, hv⟩ : ∃ a cap, v = .slice a l.length cap := by obtain ⟨a, cap, h1, _⟩ := h; exact ⟨a, cap, h1⟩
  subst hv
  have hbx : Below w.heap.size w (w.alloc (Obj.cells #[Value.int IntKind.i64 t, Value.int IntKind.i64 r, Value.slice a l.length cap] 144)) := (Below.refl _ _).alloc (Nat.le_refl _) _
  go_enter Tryz.func97, Tryz.ntmps97
  go_wp2_with fail
  refine (szVerS_any _ l _ (h.stays hbx) _ h0 h1).mono ?_
  rintro e w2 ⟨q, rfl, hq, hl, rfl⟩
  by_cases hlt : q < 0
  · go_wp2
    go_ret
    exact ⟨_, rfl, by omega, by omega, hbx⟩
  · go_wp2
    go_ret
    exact ⟨_, rfl, by omega, by omega, hbx⟩

theorem szChainS_any (v : Value) (l : List Ch) (w : World) {lo hi : Nat} (h : ChainsAt lo hi w v l) (left : Int) (h0 : 0 ≤ left) (h1 : left ≤ 1048576) :
    Calls Tryz.prog 55 #[v, .int .i64 left] w fun e w' => ∃ q, e = .returned (.int .i64 q) ∧ q ≤ left ∧ (0 ≤ q → Small l) ∧ Below w.heap.size w w' := by
  obtain ⟨a, cap, rfl, hm, hc⟩ := h
  unfold maxLen at hm
  by_cases hlt : left - l.length < 0
  · go_enter Tryz.func55, Tryz.ntmps55
    go_wp2
    go_ret
    exact ⟨_, rfl, by omega, by omega, Below.refl _ _⟩
  · go_enter Tryz.func55, Tryz.ntmps55
    go_wp2
    go_loopw [1, 5] (fun q i wr => ∃ (k : Nat) (x : Int), k ≤ l.length ∧ i = .int .i64 k ∧ q = .int .i64 x ∧ 0 ≤ x ∧ x ≤ left ∧ Below w.heap.size w wr ∧ ∀ j, j < k → (cAt l j).l.length ≤ 1048576) (fun _ i _ => l.length - (intOf i).toNat)
    case atStart => exact ⟨0, _, Nat.zero_le _, rfl, rfl, by omega, by omega, Below.refl _ _, fun j hj => absurd hj (Nat.not_lt_zero _)⟩
    case round =>
      obtain ⟨k, x, hk, rfl, rfl, hx0, hx1, hb, hs⟩ := hrel
      by_cases hkl : k < l.length
      · obtain ⟨b, off, rfl, hlo, hhi, hcc⟩ := hc (by omega)
        obtain ⟨c0, c1, a2, cap2, c2, c3⟩ := hcc k hkl
        have c0 := cell_stays hb c0
        have c1 := cell_stays hb c1
        have c2 := cell_stays hb c2
        have c3 := c3.stays hb
        clear hcc hc
        go_wp2_with (go_at_call 97; refine (szChain_any _ _ _ _ _ c3 _ hx0 (by omega)).mono ?_; rintro e w1 ⟨q, rfl, hq, hl, hb1⟩)
        · go_ret
          exact ⟨_, rfl, by omega, by omega, hb.trans (hb1.mono hb.size)⟩
        · go_roundw
          case rel =>
            refine ⟨k + 1, _, by omega, by go_num, rfl, by omega, by omega, hb.trans (hb1.mono hb.size), fun j hj => ?_⟩
            by_cases e : j = k
            · subst e; exact hl (by omega)
            · exact hs j (by omega)
          case measure => simp [intOf]; omega
      · have hkk : k = l.length := by omega
        go_wp2
        go_ret
        exact ⟨_, rfl, by omega, fun _ => ⟨by omega, fun i hi => hs i (by omega)⟩, hb⟩

theorem szStore_any (v : Value) (l : List Ch) (w : World) {lo hi : Nat} (h : ChainsAt lo hi w v l) (left : Int) (h0 : 0 ≤ left) (h1 : left ≤ 1048576) :
    Calls Tryz.prog 24 #[.agg #[v], .int .i64 left] w fun e w' => ∃ q, e = .returned (.int .i64 q) ∧ q ≤ left ∧ (0 ≤ q → Small l) ∧ Below w.heap.size w w' := by
  obtain ⟨a, cap, hv⟩ : ∃ a cap, v = .slice a l.length cap := by obtain ⟨a, cap, h1, _⟩ := h; exact ⟨a, cap, h1⟩
  subst hv
  have hbx : Below w.heap.size w (w.alloc (Obj.cells #[Value.slice a l.length cap] 24)) := (Below.refl _ _).alloc (Nat.le_refl _) _
  go_enter Tryz.func24, Tryz.ntmps24
  go_wp2_with fail
  refine (szChainS_any _ l _ (h.stays hbx) _ h0 h1).mono ?_
  rintro e w2 ⟨q, rfl, hq, hl, hb2⟩
  have hb3 := hbx.trans (hb2.mono (by simp))
  by_cases hlt : q < 0
  · go_wp2
    go_ret
    exact ⟨_, rfl, by omega, by omega, hb3⟩
  · go_wp2
    go_ret
    exact ⟨_, rfl, by omega, fun _ => hl (by omega), hb3⟩

/-! ### The same data are the same -/

theorem eqKey_same (a b : Int) (w : World) :
    Calls Tryz.prog 115 #[.agg #[.int .i64 a, .int .i64 b], .agg #[.int .i64 a, .int .i64 b]] w fun e w' => e = .returned (.bool true) ∧ Below w.heap.size w w' := by
  go_enter Tryz.func115, Tryz.ntmps115
  go_wp2
  go_ret
  exact ⟨rfl, ((Below.refl _ _).alloc (Nat.le_refl _) _).alloc (by simp) _⟩

theorem eqVer_same (a b : Int) (w : World) :
    Calls Tryz.prog 151 #[.agg #[.int .i64 a, .int .i64 b], .agg #[.int .i64 a, .int .i64 b]] w fun e w' => e = .returned (.bool true) ∧ Below w.heap.size w w' := by
  go_enter Tryz.func151, Tryz.ntmps151
  go_wp2
  go_ret
  exact ⟨rfl, ((Below.refl _ _).alloc (Nat.le_refl _) _).alloc (by simp) _⟩

theorem eqVerS_same (v v' : Value) (l : List Vr) (w : World) {lo hi lo' hi' : Nat} (h : VersAt lo hi w v l) (h' : VersAt lo' hi' w v' l) :
    Calls Tryz.prog 143 #[v, v'] w fun e w' => e = .returned (.bool true) ∧ Below w.heap.size w w' := by
  obtain ⟨a, cap, rfl, hm, hc⟩ := h
  obtain ⟨a', cap', rfl, _, hc'⟩ := h'
  unfold maxLen at hm
  go_enter Tryz.func143, Tryz.ntmps143
  go_wp2
  go_loopw [5] (fun i wr => ∃ k : Nat, k ≤ l.length ∧ i = .int .i64 k ∧ Below w.heap.size w wr) (fun i _ => l.length - (intOf i).toNat)
  case atStart => exact ⟨0, Nat.zero_le _, rfl, Below.refl _ _⟩
  case round =>
    obtain ⟨k, hk, rfl, hb⟩ := hrel
    by_cases hlt : k < l.length
    · obtain ⟨b, off, rfl, _, _, hcc⟩ := hc (by omega)
      obtain ⟨b', off', rfl, _, _, hcc'⟩ := hc' (by omega)
      have c0 := cell_stays hb (hcc k hlt).1
      have c1 := cell_stays hb (hcc k hlt).2
      have d0 := cell_stays hb (hcc' k hlt).1
      have d1 := cell_stays hb (hcc' k hlt).2
      have i0 : (0 : Int) ≤ (k : Int) := by omega
      have i1 : (k : Int) < (l.length : Int) := by omega
      clear hcc hc hcc' hc'
      go_wp2_with fail
      go_region_held3 (fun x => Below w.heap.size w x ∧ x.cell? ⟨b, off + k * 2, none⟩ = some (.int .i64 (vAt l k).1) ∧ x.cell? ⟨b, off + k * 2 + 1, none⟩ = some (.int .i64 (vAt l k).2) ∧ x.cell? ⟨b', off' + k * 2, none⟩ = some (.int .i64 (vAt l k).1) ∧ x.cell? ⟨b', off' + k * 2 + 1, none⟩ = some (.int .i64 (vAt l k).2))
        (first | exact four_kept (by assumption) hb1 | exact ⟨hb.drew, c0, c1, d0, d1⟩)
        (first | (go_at_call 151; refine (eqVer_same _ _ _).mono ?_; rintro e w1 ⟨rfl, hb1⟩))
      rename_i hH
      go_wp2
      go_roundw
      case rel => exact ⟨k + 1, by omega, by go_num, hH.1⟩
      case measure => simp [intOf]; omega
    · go_wp2
      go_ret
      exact ⟨rfl, hb⟩

theorem eqChain_same (t r : Int) (v v' : Value) (l : List Vr) (w : World) {lo hi lo' hi' : Nat} (h : VersAt lo hi w v l) (h' : VersAt lo' hi' w v' l) :
    Calls Tryz.prog 113 #[.agg #[.int .i64 t, .int .i64 r, v], .agg #[.int .i64 t, .int .i64 r, v']] w fun e w' => e = .returned (.bool true) ∧ Below w.heap.size w w' := by
  obtain ⟨a, cap, hv⟩ : ∃ a cap, v = .slice a l.length cap := by obtain ⟨a, cap, h1, _⟩ := h; exact ⟨a, cap, h1⟩
  obtain ⟨a', cap', hv'⟩ : ∃ a cap, v' = .slice a l.length cap := by obtain ⟨a, cap, h1, _⟩ := h'; exact ⟨a, cap, h1⟩
  subst hv hv'
  have hbx : Below w.heap.size w ((w.alloc (Obj.cells #[Value.int IntKind.i64 t, Value.int IntKind.i64 r, Value.slice a l.length cap] 94)).alloc (Obj.cells #[Value.int IntKind.i64 t, Value.int IntKind.i64 r, Value.slice a' l.length cap'] 94)) := ((Below.refl _ _).alloc (Nat.le_refl _) _).alloc (by simp) _
  go_enter Tryz.func113, Tryz.ntmps113
  go_wp2_with (first | (go_at_call 115; refine (eqKey_same _ _ _).mono ?_; rintro e w1 ⟨rfl, hb1⟩; obtain ⟨hc1, hf1⟩ := bcell hb1))
  have hb2 := hbx.trans (hb1.mono (by simp; omega))
  refine (eqVerS_same _ _ l _ (h.stays hb2) (h'.stays hb2)).mono ?_
  rintro e w2 ⟨rfl, hb3⟩
  go_wp2
  go_ret
  exact ⟨rfl, hb2.trans (hb3.mono hb2.size)⟩

theorem eqChainS_same (v v' : Value) (l : List Ch) (w : World) {lo hi lo' hi' : Nat} (h : ChainsAt lo hi w v l) (h' : ChainsAt lo' hi' w v' l) :
    Calls Tryz.prog 72 #[v, v'] w fun e w' => e = .returned (.bool true) ∧ Below w.heap.size w w' := by
  obtain ⟨a, cap, rfl, hm, hc⟩ := h
  obtain ⟨a', cap', rfl, _, hc'⟩ := h'
  unfold maxLen at hm
  go_enter Tryz.func72, Tryz.ntmps72
  go_wp2
  go_loopw [5] (fun i wr => ∃ k : Nat, k ≤ l.length ∧ i = .int .i64 k ∧ Below w.heap.size w wr) (fun i _ => l.length - (intOf i).toNat)
  case atStart => exact ⟨0, Nat.zero_le _, rfl, Below.refl _ _⟩
  case round =>
    obtain ⟨k, hk, rfl, hb⟩ := hrel
    by_cases hlt : k < l.length
    · obtain ⟨b, off, rfl, _, _, hcc⟩ := hc (by omega)
      obtain ⟨b', off', rfl, _, _, hcc'⟩ := hc' (by omega)
      obtain ⟨c0, c1, ca, cb, c2, c3⟩ := hcc k hlt
      obtain ⟨d0, d1, da, db, d2, d3⟩ := hcc' k hlt
      replace c0 := cell_stays hb c0
      replace c1 := cell_stays hb c1
      replace c2 := cell_stays hb c2
      replace d0 := cell_stays hb d0
      replace d1 := cell_stays hb d1
      replace d2 := cell_stays hb d2
      have i0 : (0 : Int) ≤ (k : Int) := by omega
      have i1 : (k : Int) < (l.length : Int) := by omega
      clear hcc hc hcc' hc'
      go_wp2_with fail
      go_region_held3 (fun x => Below w.heap.size w x ∧ x.cell? ⟨b, off + k * 3, none⟩ = some (.int .i64 (cAt l k).t) ∧ x.cell? ⟨b, off + k * 3 + 1, none⟩ = some (.int .i64 (cAt l k).r) ∧ x.cell? ⟨b, off + k * 3 + 1 + 1, none⟩ = some (.slice ca (cAt l k).l.length cb) ∧ x.cell? ⟨b', off' + k * 3, none⟩ = some (.int .i64 (cAt l k).t) ∧ x.cell? ⟨b', off' + k * 3 + 1, none⟩ = some (.int .i64 (cAt l k).r) ∧ x.cell? ⟨b', off' + k * 3 + 1 + 1, none⟩ = some (.slice da (cAt l k).l.length db))
        (first | exact six_kept (by assumption) hb1 | exact ⟨hb.drew, c0, c1, c2, d0, d1, d2⟩)
        (first | (go_at_call 113; refine (eqChain_same _ _ _ _ (cAt l k).l _ (c3.stays hb.drew) (d3.stays hb.drew)).mono ?_; rintro e w1 ⟨rfl, hb1⟩))
      rename_i hH
      go_wp2
      go_roundw
      case rel => exact ⟨k + 1, by omega, by go_num, hH.1⟩
      case measure => simp [intOf]; omega
    · go_wp2
      go_ret
      exact ⟨rfl, hb⟩

theorem eqStore_same (v v' : Value) (l : List Ch) (w : World) {lo hi lo' hi' : Nat} (h : ChainsAt lo hi w v l) (h' : ChainsAt lo' hi' w v' l) :
    Calls Tryz.prog 36 #[.agg #[v], .agg #[v']] w fun e w' => e = .returned (.bool true) ∧ Below w.heap.size w w' := by
  obtain ⟨a, cap, hv⟩ : ∃ a cap, v = .slice a l.length cap := by obtain ⟨a, cap, h1, _⟩ := h; exact ⟨a, cap, h1⟩
  obtain ⟨a', cap', hv'⟩ : ∃ a cap, v' = .slice a l.length cap := by obtain ⟨a, cap, h1, _⟩ := h'; exact ⟨a, cap, h1⟩
  subst hv hv'
  have hbx : Below w.heap.size w ((w.alloc (Obj.cells #[Value.slice a l.length cap] 32)).alloc (Obj.cells #[Value.slice a' l.length cap'] 32)) := ((Below.refl _ _).alloc (Nat.le_refl _) _).alloc (by simp) _
  go_enter Tryz.func36, Tryz.ntmps36
  go_wp2_with fail
  refine (eqChainS_same _ _ l _ (h.stays hbx) (h'.stays hbx)).mono ?_
  rintro e w2 ⟨rfl, hb3⟩
  go_wp2
  go_ret
  exact ⟨rfl, hbx.trans (hb3.mono hbx.size)⟩

end Go.Proofs.YtmecbppblbmchaaGreatDoor
