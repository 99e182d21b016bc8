/- The same rows, transactions, events, states are the same. -/
import Derived.Test.YtgnfiakbcogdlajMData
import Derived.Test.YtgnfiakbcogdlajRows1
namespace Go.Proofs.Ytgnfiakbcogdlaj
open Go.ChangeShapes Go.WideShapes Go.ChangeAt Go.RowKit Go.Sort
set_option linter.unusedVariables false
set_option maxRecDepth 100000
attribute [local go_sem ↓] Go.wp_at_zero Go.wp_at_succ

theorem eqRowS_at (v v' : Value) (l : List Rw) (w : World) {lo hi lo' hi' : Nat} (h : RowsAt lo hi w v l) (h' : RowsAt lo' hi' w v' l) :
    Calls Try.prog 19 #[v, v'] w fun e w' => e = .returned (.bool true) ∧ Below w.heap.size w w' := by
  obtain ⟨a, cap, rfl, hm, hc⟩ := h
  obtain ⟨a', cap', rfl, _, hc'⟩ := h'
  unfold maxLen at hm
  go_enter Try.func19, Try.ntmps19
  go_wp2
  go_loopw [5] (fun i wr => ∃ k : Nat, k ≤ l.length ∧ i = .int .i64 k ∧ Below w.heap.size w wr) (fun i _ => l.length - (intOf i).toNat)
  case atStart => exact ⟨0, Nat.zero_le _, rfl, Below.refl _ _⟩
  case round =>
    obtain ⟨k, hk, rfl, hb⟩ := hrel
    by_cases hlt : k < l.length
    · obtain ⟨b, off, rfl, _, _, hcc⟩ := hc (by omega)
      obtain ⟨b', off', rfl, _, _, hcc'⟩ := hc' (by omega)
      obtain ⟨c0, c1, c2⟩ := hcc k hlt
      obtain ⟨d0, d1, d2⟩ := hcc' k hlt
      replace c0 := cell_stays hb c0
      replace c1 := cell_stays hb c1
      replace c2 := cell_stays hb c2
      replace d0 := cell_stays hb d0
      replace d1 := cell_stays hb d1
      replace d2 := cell_stays hb d2
      have i0 : (0 : Int) ≤ (k : Int) := by omega
      have i1 : (k : Int) < (l.length : Int) := by omega
      clear hcc hc hcc' hc'
      go_wp2_with fail
      go_region_held3 (fun x => Below w.heap.size w x ∧ x.cell? ⟨b, off + k * 3, none⟩ = some (.int .i64 (rAt l k).t) ∧ x.cell? ⟨b, off + k * 3 + 1, none⟩ = some (.int .i64 (rAt l k).r) ∧ x.cell? ⟨b, off + k * 3 + 1 + 1, none⟩ = some (.int .i64 (rAt l k).v) ∧ x.cell? ⟨b', off' + k * 3, none⟩ = some (.int .i64 (rAt l k).t) ∧ x.cell? ⟨b', off' + k * 3 + 1, none⟩ = some (.int .i64 (rAt l k).r) ∧ x.cell? ⟨b', off' + k * 3 + 1 + 1, none⟩ = some (.int .i64 (rAt l k).v))
        (first | exact six_kept (by assumption) hb1 | exact ⟨hb.drew, c0, c1, c2, d0, d1, d2⟩)
        (first | (go_at_call 57; refine (eqRow_same _ _ _ _).mono ?_; rintro e w1 ⟨rfl, hb1⟩))
      rename_i hH
      go_wp2
      go_roundw
      case rel => exact ⟨k + 1, by omega, by go_num, hH.1⟩
      case measure => simp [intOf]; omega
    · go_wp2
      go_ret
      exact ⟨rfl, hb⟩

theorem eqEv_same (k x t r v a : Int) (w : World) :
    Calls Try.prog 93 #[.agg #[.int .i64 k, .int .i64 x, .int .i64 t, .int .i64 r, .int .i64 v, .int .i64 a], .agg #[.int .i64 k, .int .i64 x, .int .i64 t, .int .i64 r, .int .i64 v, .int .i64 a]] w fun e w' => e = .returned (.bool true) ∧ Below w.heap.size w w' := by
  have hbx : Below w.heap.size w ((w.alloc (Obj.cells #[.int .i64 k, .int .i64 x, .int .i64 t, .int .i64 r, .int .i64 v, .int .i64 a] 129)).alloc (Obj.cells #[.int .i64 k, .int .i64 x, .int .i64 t, .int .i64 r, .int .i64 v, .int .i64 a] 129)) := ((Below.refl _ _).alloc (Nat.le_refl _) _).alloc (by simp) _
  go_enter Try.func93, Try.ntmps93
  go_wp2_with (first | (go_at_call 85; refine (eqKey_same _ _ _).mono ?_; rintro e w1 ⟨rfl, hb1⟩; obtain ⟨hc1, hf1⟩ := bcell hb1))
  go_ret
  exact ⟨rfl, hbx.trans (hb1.mono hbx.size)⟩

set_option maxHeartbeats 1000000 in
theorem eqEvS_same (v v' : Value) (l : List Ed) (w : World) {lo hi lo' hi' : Nat} (h : EvsAt lo hi w v l) (h' : EvsAt lo' hi' w v' l) :
    Calls Try.prog 70 #[v, v'] w fun e w' => e = .returned (.bool true) ∧ Below w.heap.size w w' := by
  obtain ⟨a, cap, rfl, hm, hc⟩ := h
  obtain ⟨a', cap', rfl, _, hc'⟩ := h'
  unfold maxLen at hm
  go_enter Try.func70, Try.ntmps70
  go_wp2
  go_loopw [5] (fun i wr => ∃ k : Nat, k ≤ l.length ∧ i = .int .i64 k ∧ Below w.heap.size w wr) (fun i _ => l.length - (intOf i).toNat)
  case atStart => exact ⟨0, Nat.zero_le _, rfl, Below.refl _ _⟩
  case round =>
    obtain ⟨k, hk, rfl, hb⟩ := hrel
    by_cases hlt : k < l.length
    · obtain ⟨b, off, rfl, _, _, hcc⟩ := hc (by omega)
      obtain ⟨b', off', rfl, _, _, hcc'⟩ := hc' (by omega)
      obtain ⟨c0, c1, c2, c3, c4, c5⟩ := hcc k hlt
      obtain ⟨d0, d1, d2, d3, d4, d5⟩ := hcc' k hlt
      replace c0 := cell_stays hb c0
      replace c1 := cell_stays hb c1
      replace c2 := cell_stays hb c2
      replace c3 := cell_stays hb c3
      replace c4 := cell_stays hb c4
      replace c5 := cell_stays hb c5
      replace d0 := cell_stays hb d0
      replace d1 := cell_stays hb d1
      replace d2 := cell_stays hb d2
      replace d3 := cell_stays hb d3
      replace d4 := cell_stays hb d4
      replace d5 := cell_stays hb d5
      have i0 : (0 : Int) ≤ (k : Int) := by omega
      have i1 : (k : Int) < (l.length : Int) := by omega
      clear hcc hc hcc' hc'
      go_wp2_with fail
      go_region_held3 (fun x => Below w.heap.size w x ∧ x.cell? ⟨b, off + k * 6, none⟩ = some (.int .i64 (eAt l k).k) ∧ x.cell? ⟨b, off + k * 6 + 1, none⟩ = some (.int .i64 (eAt l k).x) ∧ x.cell? ⟨b, off + k * 6 + 1 + 1, none⟩ = some (.int .i64 (eAt l k).t) ∧ x.cell? ⟨b, off + k * 6 + 1 + 1 + 1, none⟩ = some (.int .i64 (eAt l k).r) ∧ x.cell? ⟨b, off + k * 6 + 1 + 1 + 1 + 1, none⟩ = some (.int .i64 (eAt l k).v) ∧ x.cell? ⟨b, off + k * 6 + 1 + 1 + 1 + 1 + 1, none⟩ = some (.int .i64 (eAt l k).a) ∧ x.cell? ⟨b', off' + k * 6, none⟩ = some (.int .i64 (eAt l k).k) ∧ x.cell? ⟨b', off' + k * 6 + 1, none⟩ = some (.int .i64 (eAt l k).x) ∧ x.cell? ⟨b', off' + k * 6 + 1 + 1, none⟩ = some (.int .i64 (eAt l k).t) ∧ x.cell? ⟨b', off' + k * 6 + 1 + 1 + 1, none⟩ = some (.int .i64 (eAt l k).r) ∧ x.cell? ⟨b', off' + k * 6 + 1 + 1 + 1 + 1, none⟩ = some (.int .i64 (eAt l k).v) ∧ x.cell? ⟨b', off' + k * 6 + 1 + 1 + 1 + 1 + 1, none⟩ = some (.int .i64 (eAt l k).a))
        (first | exact seven_kept (by assumption) hb1 | exact ⟨hb.drew, c0, c1, c2, c3, c4, c5, d0, d1, d2, d3, d4, d5⟩)
        (first | (go_at_call 93; refine (eqEv_same _ _ _ _ _ _ _).mono ?_; rintro e w1 ⟨rfl, hb1⟩))
      rename_i hH
      go_wp2
      go_roundw
      case rel => exact ⟨k + 1, by omega, by go_num, hH.1⟩
      case measure => simp [intOf]; omega
    · go_wp2
      go_ret
      exact ⟨rfl, hb⟩

theorem eqTx_same (i s : Int) (v v' : Value) (l : List Rw) (w : World) {lo hi lo' hi' : Nat} (h : RowsAt lo hi w v l) (h' : RowsAt lo' hi' w v' l) :
    Calls Try.prog 92 #[.agg #[.int .i64 i, .int .i64 s, v], .agg #[.int .i64 i, .int .i64 s, v']] w fun e w' => e = .returned (.bool true) ∧ Below w.heap.size w w' := by
  obtain ⟨a, cap, hv⟩ : ∃ a cap, v = .slice a l.length cap := by obtain ⟨a, cap, h1, _⟩ := h; exact ⟨a, cap, h1⟩
  obtain ⟨a', cap', hv'⟩ : ∃ a cap, v' = .slice a l.length cap := by obtain ⟨a, cap, h1, _⟩ := h'; exact ⟨a, cap, h1⟩
  subst hv hv'
  have hbx : Below w.heap.size w ((w.alloc (Obj.cells #[Value.int IntKind.i64 i, Value.int IntKind.i64 s, Value.slice a l.length cap] 101)).alloc (Obj.cells #[Value.int IntKind.i64 i, Value.int IntKind.i64 s, Value.slice a' l.length cap'] 101)) := ((Below.refl _ _).alloc (Nat.le_refl _) _).alloc (by simp) _
  go_enter Try.func92, Try.ntmps92
  go_wp2_with fail
  refine (eqRowS_at _ _ l _ (h.stays hbx) (h'.stays hbx)).mono ?_
  rintro e w2 ⟨rfl, hb3⟩
  go_wp2
  go_ret
  exact ⟨rfl, hbx.trans (hb3.mono hbx.size)⟩

theorem eqTxS_same (v v' : Value) (l : List Td) (w : World) {lo hi lo' hi' : Nat} (h : TxsAt lo hi w v l) (h' : TxsAt lo' hi' w v' l) :
    Calls Try.prog 69 #[v, v'] w fun e w' => e = .returned (.bool true) ∧ Below w.heap.size w w' := by
  obtain ⟨a, cap, rfl, hm, hc⟩ := h
  obtain ⟨a', cap', rfl, _, hc'⟩ := h'
  unfold maxLen at hm
  go_enter Try.func69, Try.ntmps69
  go_wp2
  go_loopw [5] (fun i wr => ∃ k : Nat, k ≤ l.length ∧ i = .int .i64 k ∧ Below w.heap.size w wr) (fun i _ => l.length - (intOf i).toNat)
  case atStart => exact ⟨0, Nat.zero_le _, rfl, Below.refl _ _⟩
  case round =>
    obtain ⟨k, hk, rfl, hb⟩ := hrel
    by_cases hlt : k < l.length
    · obtain ⟨b, off, rfl, _, _, hcc⟩ := hc (by omega)
      obtain ⟨b', off', rfl, _, _, hcc'⟩ := hc' (by omega)
      obtain ⟨c0, c1, ca, cb, c2, c3⟩ := hcc k hlt
      obtain ⟨d0, d1, da, db, d2, d3⟩ := hcc' k hlt
      replace c0 := cell_stays hb c0
      replace c1 := cell_stays hb c1
      replace c2 := cell_stays hb c2
      replace d0 := cell_stays hb d0
      replace d1 := cell_stays hb d1
      replace d2 := cell_stays hb d2
      replace c3 := c3.stays hb
      replace d3 := d3.stays hb
      have i0 : (0 : Int) ≤ (k : Int) := by omega
      have i1 : (k : Int) < (l.length : Int) := by omega
      clear hcc hc hcc' hc'
      go_wp2_with fail
      go_region_held3 (fun x => Below w.heap.size w x ∧ x.cell? ⟨b, off + k * 3, none⟩ = some (.int .i64 (tAt l k).i) ∧ x.cell? ⟨b, off + k * 3 + 1, none⟩ = some (.int .i64 (tAt l k).s) ∧ x.cell? ⟨b, off + k * 3 + 1 + 1, none⟩ = some (.slice ca (tAt l k).w.length cb) ∧ x.cell? ⟨b', off' + k * 3, none⟩ = some (.int .i64 (tAt l k).i) ∧ x.cell? ⟨b', off' + k * 3 + 1, none⟩ = some (.int .i64 (tAt l k).s) ∧ x.cell? ⟨b', off' + k * 3 + 1 + 1, none⟩ = some (.slice da (tAt l k).w.length db))
        (first | exact six_kept (by assumption) hb1 | exact ⟨hb.drew, c0, c1, c2, d0, d1, d2⟩)
        (first | (go_at_call 92; refine (eqTx_same _ _ _ _ (tAt l k).w _ (c3.stays (Below.refl _ _).drew) (d3.stays (Below.refl _ _).drew)).mono ?_; rintro e w1 ⟨rfl, hb1⟩))
      rename_i hH
      go_wp2
      go_roundw
      case rel => exact ⟨k + 1, by omega, by go_num, hH.1⟩
      case measure => simp [intOf]; omega
    · go_wp2
      go_ret
      exact ⟨rfl, hb⟩

theorem eqMgr_same (vs vt ve vs' vt' ve' : Value) (m : Md) (w : World) {lo hi lo' hi' : Nat} (h : MAt lo hi w vs vt ve m) (h' : MAt lo' hi' w vs' vt' ve' m) :
    Calls Try.prog 32 #[.agg #[vs, .int .i64 m.c, .int .i64 m.n, vt, ve], .agg #[vs', .int .i64 m.c, .int .i64 m.n, vt', ve']] w fun e w' => e = .returned (.bool true) ∧ Below w.heap.size w w' := by
  obtain ⟨a1, cap1, hv1⟩ : ∃ a cap, vs = .slice a m.s.length cap := by obtain ⟨a, cap, h1, _⟩ := h.s; exact ⟨a, cap, h1⟩
  obtain ⟨a2, cap2, hv2⟩ : ∃ a cap, vt = .slice a m.x.length cap := by obtain ⟨a, cap, h1, _⟩ := h.x; exact ⟨a, cap, h1⟩
  obtain ⟨a3, cap3, hv3⟩ : ∃ a cap, ve = .slice a m.h.length cap := by obtain ⟨a, cap, h1, _⟩ := h.h; exact ⟨a, cap, h1⟩
  obtain ⟨a1', cap1', hv1'⟩ : ∃ a cap, vs' = .slice a m.s.length cap := by obtain ⟨a, cap, h1, _⟩ := h'.s; exact ⟨a, cap, h1⟩
  obtain ⟨a2', cap2', hv2'⟩ : ∃ a cap, vt' = .slice a m.x.length cap := by obtain ⟨a, cap, h1, _⟩ := h'.x; exact ⟨a, cap, h1⟩
  obtain ⟨a3', cap3', hv3'⟩ : ∃ a cap, ve' = .slice a m.h.length cap := by obtain ⟨a, cap, h1, _⟩ := h'.h; exact ⟨a, cap, h1⟩
  subst hv1 hv2 hv3 hv1' hv2' hv3'
  have hbx : Below w.heap.size w ((w.alloc (Obj.cells #[Value.slice a1 m.s.length cap1, .int .i64 m.c, .int .i64 m.n, Value.slice a2 m.x.length cap2, Value.slice a3 m.h.length cap3] 59)).alloc (Obj.cells #[Value.slice a1' m.s.length cap1', .int .i64 m.c, .int .i64 m.n, Value.slice a2' m.x.length cap2', Value.slice a3' m.h.length cap3'] 59)) := ((Below.refl _ _).alloc (Nat.le_refl _) _).alloc (by simp) _
  go_enter Try.func32, Try.ntmps32
  go_wp2_with fail
  refine (eqStore_same _ _ m.s _ (h.s.stays hbx) (h'.s.stays hbx)).mono ?_
  rintro e w1 ⟨rfl, hb1⟩
  obtain ⟨hc1, hf1⟩ := bcell hb1
  have hz1 : w.heap.size + 1 < w1.heap.size := by have := hb1.size; simp at this; omega
  have hz1a : w.heap.size < w1.heap.size := by omega
  have b1 := hbx.trans (hb1.mono hbx.size)
  go_wp2_with fail
  refine (eqTxS_same _ _ m.x _ (h.x.stays b1) (h'.x.stays b1)).mono ?_
  rintro e w2 ⟨rfl, hb2⟩
  obtain ⟨hc2, hf2⟩ := bcell hb2
  have b2 := b1.trans (hb2.mono b1.size)
  go_wp2_with fail
  refine (eqEvS_same _ _ m.h _ (h.h.stays b2) (h'.h.stays b2)).mono ?_
  rintro e w3 ⟨rfl, hb3⟩
  have b3 := b2.trans (hb3.mono b2.size)
  go_wp2
  go_ret
  exact ⟨rfl, b3⟩

end Go.Proofs.Ytgnfiakbcogdlaj
