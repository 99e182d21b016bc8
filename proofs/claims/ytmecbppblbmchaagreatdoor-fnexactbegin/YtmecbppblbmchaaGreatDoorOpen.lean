import Derived.Test.YtmecbppblbmchaaGreatDoorMData
import Derived.Test.YtmecbppblbmchaaGreatDoorHeld
import Derived.Test.YtmecbppblbmchaaGreatDoorRows
import Derived.Test.YtmecbppblbmchaaGreatDoorCopy0
import Derived.Deep.SlicePairs
import Derived.Lib.SmallJoins
/- The same rows, transactions, events, states are the same. -/
namespace Go.Proofs.YtmecbppblbmchaaGreatDoor
open Go.ChangeShapes Go.WideShapes Go.ChangeAt Go.RowKit Go.Sort
set_option linter.unusedVariables false
set_option maxRecDepth 100000
attribute [local go_sem ↓] Go.wp_at_zero Go.wp_at_succ

theorem eqRowS_at (v v' : Value) (l : List Rw) (w : World) {lo hi lo' hi' : Nat} (h : RowsAt lo hi w v l) (h' : RowsAt lo' hi' w v' l) :
    Calls Tryz.prog 114 #[v, v'] w fun e w' => e = .returned (.bool true) ∧ Below w.heap.size w w' := by
  obtain ⟨a, cap, rfl, hm, hc⟩ := h
  obtain ⟨a', cap', rfl, _, hc'⟩ := h'
  unfold maxLen at hm
  go_enter Tryz.func114, Tryz.ntmps114
  go_wp2
  go_loopw [5] (fun i wr => ∃ k : Nat, k ≤ l.length ∧ i = .int .i64 k ∧ Below w.heap.size w wr) (fun i _ => l.length - (intOf i).toNat)
  case atStart => exact ⟨0, Nat.zero_le _, rfl, Below.refl _ _⟩
  case round =>
    obtain ⟨k, hk, rfl, hb⟩ := hrel
    by_cases hlt : k < l.length
    · obtain ⟨b, off, rfl, _, _, hcc⟩ := hc (by omega)
      obtain ⟨b', off', rfl, _, _, hcc'⟩ := hc' (by omega)
      obtain ⟨c0, c1, c2⟩ := hcc k hlt
      obtain ⟨d0, d1, d2⟩ := hcc' k hlt
      replace c0 := cell_stays hb c0
      replace c1 := cell_stays hb c1
      replace c2 := cell_stays hb c2
      replace d0 := cell_stays hb d0
      replace d1 := cell_stays hb d1
      replace d2 := cell_stays hb d2
      have i0 : (0 : Int) ≤ (k : Int) := by omega
      have i1 : (k : Int) < (l.length : Int) := by omega
      clear hcc hc hcc' hc'
      go_wp2_with fail
      go_region_held3 (fun x => Below w.heap.size w x ∧ x.cell? ⟨b, off + k * 3, none⟩ = some (.int .i64 (rAt l k).t) ∧ x.cell? ⟨b, off + k * 3 + 1, none⟩ = some (.int .i64 (rAt l k).r) ∧ x.cell? ⟨b, off + k * 3 + 1 + 1, none⟩ = some (.int .i64 (rAt l k).v) ∧ x.cell? ⟨b', off' + k * 3, none⟩ = some (.int .i64 (rAt l k).t) ∧ x.cell? ⟨b', off' + k * 3 + 1, none⟩ = some (.int .i64 (rAt l k).r) ∧ x.cell? ⟨b', off' + k * 3 + 1 + 1, none⟩ = some (.int .i64 (rAt l k).v))
        (first | exact six_kept (by assumption) hb1 | exact ⟨hb.drew, c0, c1, c2, d0, d1, d2⟩)
        (first | (go_at_call 144; refine (eqRow_same _ _ _ _).mono ?_; rintro e w1 ⟨rfl, hb1⟩))
      rename_i hH
      go_wp2
      go_roundw
      case rel => exact ⟨k + 1, by omega, by go_num, hH.1⟩
      case measure => simp [intOf]; omega
    · go_wp2
      go_ret
      exact ⟨rfl, hb⟩

theorem eqEv_same (k x t r v a : Int) (w : World) :
    Calls Tryz.prog 74 #[.agg #[.int .i64 k, .int .i64 x, .int .i64 t, .int .i64 r, .int .i64 v, .int .i64 a], .agg #[.int .i64 k, .int .i64 x, .int .i64 t, .int .i64 r, .int .i64 v, .int .i64 a]] w fun e w' => e = .returned (.bool true) ∧ Below w.heap.size w w' := by
  have hbx : Below w.heap.size w ((w.alloc (Obj.cells #[.int .i64 k, .int .i64 x, .int .i64 t, .int .i64 r, .int .i64 v, .int .i64 a] 101)).alloc (Obj.cells #[.int .i64 k, .int .i64 x, .int .i64 t, .int .i64 r, .int .i64 v, .int .i64 a] 101)) := ((Below.refl _ _).alloc (Nat.le_refl _) _).alloc (by simp) _
  go_enter Tryz.func74, Tryz.ntmps74
  go_wp2_with (first | (go_at_call 115; refine (eqKey_same _ _ _).mono ?_; rintro e w1 ⟨rfl, hb1⟩; obtain ⟨hc1, hf1⟩ := bcell hb1))
  go_ret
  exact ⟨rfl, hbx.trans (hb1.mono hbx.size)⟩

set_option maxHeartbeats 1000000 in
theorem eqEvS_same (v v' : Value) (l : List Ed) (w : World) {lo hi lo' hi' : Nat} (h : EvsAt lo hi w v l) (h' : EvsAt lo' hi' w v' l) :
    Calls Tryz.prog 38 #[v, v'] w fun e w' => e = .returned (.bool true) ∧ Below w.heap.size w w' := by
  obtain ⟨a, cap, rfl, hm, hc⟩ := h
  obtain ⟨a', cap', rfl, _, hc'⟩ := h'
  unfold maxLen at hm
  go_enter Tryz.func38, Tryz.ntmps38
  go_wp2
  go_loopw [5] (fun i wr => ∃ k : Nat, k ≤ l.length ∧ i = .int .i64 k ∧ Below w.heap.size w wr) (fun i _ => l.length - (intOf i).toNat)
  case atStart => exact ⟨0, Nat.zero_le _, rfl, Below.refl _ _⟩
  case round =>
    obtain ⟨k, hk, rfl, hb⟩ := hrel
    by_cases hlt : k < l.length
    · obtain ⟨b, off, rfl, _, _, hcc⟩ := hc (by omega)
      obtain ⟨b', off', rfl, _, _, hcc'⟩ := hc' (by omega)
      obtain ⟨c0, c1, c2, c3, c4, c5⟩ := hcc k hlt
      obtain ⟨d0, d1, d2, d3, d4, d5⟩ := hcc' k hlt
      replace c0 := cell_stays hb c0
      replace c1 := cell_stays hb c1
      replace c2 := cell_stays hb c2
      replace c3 := cell_stays hb c3
      replace c4 := cell_stays hb c4
      replace c5 := cell_stays hb c5
      replace d0 := cell_stays hb d0
      replace d1 := cell_stays hb d1
      replace d2 := cell_stays hb d2
      replace d3 := cell_stays hb d3
      replace d4 := cell_stays hb d4
      replace d5 := cell_stays hb d5
      have i0 : (0 : Int) ≤ (k : Int) := by omega
      have i1 : (k : Int) < (l.length : Int) := by omega
      clear hcc hc hcc' hc'
      go_wp2_with fail
      go_region_held3 (fun x => Below w.heap.size w x ∧ x.cell? ⟨b, off + k * 6, none⟩ = some (.int .i64 (eAt l k).k) ∧ x.cell? ⟨b, off + k * 6 + 1, none⟩ = some (.int .i64 (eAt l k).x) ∧ x.cell? ⟨b, off + k * 6 + 1 + 1, none⟩ = some (.int .i64 (eAt l k).t) ∧ x.cell? ⟨b, off + k * 6 + 1 + 1 + 1, none⟩ = some (.int .i64 (eAt l k).r) ∧ x.cell? ⟨b, off + k * 6 + 1 + 1 + 1 + 1, none⟩ = some (.int .i64 (eAt l k).v) ∧ x.cell? ⟨b, off + k * 6 + 1 + 1 + 1 + 1 + 1, none⟩ = some (.int .i64 (eAt l k).a) ∧ x.cell? ⟨b', off' + k * 6, none⟩ = some (.int .i64 (eAt l k).k) ∧ x.cell? ⟨b', off' + k * 6 + 1, none⟩ = some (.int .i64 (eAt l k).x) ∧ x.cell? ⟨b', off' + k * 6 + 1 + 1, none⟩ = some (.int .i64 (eAt l k).t) ∧ x.cell? ⟨b', off' + k * 6 + 1 + 1 + 1, none⟩ = some (.int .i64 (eAt l k).r) ∧ x.cell? ⟨b', off' + k * 6 + 1 + 1 + 1 + 1, none⟩ = some (.int .i64 (eAt l k).v) ∧ x.cell? ⟨b', off' + k * 6 + 1 + 1 + 1 + 1 + 1, none⟩ = some (.int .i64 (eAt l k).a))
        (first | exact seven_kept (by assumption) hb1 | exact ⟨hb.drew, c0, c1, c2, c3, c4, c5, d0, d1, d2, d3, d4, d5⟩)
        (first | (go_at_call 74; refine (eqEv_same _ _ _ _ _ _ _).mono ?_; rintro e w1 ⟨rfl, hb1⟩))
      rename_i hH
      go_wp2
      go_roundw
      case rel => exact ⟨k + 1, by omega, by go_num, hH.1⟩
      case measure => simp [intOf]; omega
    · go_wp2
      go_ret
      exact ⟨rfl, hb⟩

theorem eqTx_same (i s : Int) (v v' : Value) (l : List Rw) (w : World) {lo hi lo' hi' : Nat} (h : RowsAt lo hi w v l) (h' : RowsAt lo' hi' w v' l) :
    Calls Tryz.prog 73 #[.agg #[.int .i64 i, .int .i64 s, v], .agg #[.int .i64 i, .int .i64 s, v']] w fun e w' => e = .returned (.bool true) ∧ Below w.heap.size w w' := by
  obtain ⟨a, cap, hv⟩ : ∃ a cap, v = .slice a l.length cap := by obtain ⟨a, cap, h1, _⟩ := h; exact ⟨a, cap, h1⟩
  obtain ⟨a', cap', hv'⟩ : ∃ a cap, v' = .slice a l.length cap := by obtain ⟨a, cap, h1, _⟩ := h'; exact ⟨a, cap, h1⟩
  subst hv hv'
  have hbx : Below w.heap.size w ((w.alloc (Obj.cells #[Value.int IntKind.i64 i, Value.int IntKind.i64 s, Value.slice a l.length cap] 97)).alloc (Obj.cells #[Value.int IntKind.i64 i, Value.int IntKind.i64 s, Value.slice a' l.length cap'] 97)) := ((Below.refl _ _).alloc (Nat.le_refl _) _).alloc (by simp) _
  go_enter Tryz.func73, Tryz.ntmps73
  go_wp2_with fail
  refine (eqRowS_at _ _ l _ (h.stays hbx) (h'.stays hbx)).mono ?_
  rintro e w2 ⟨rfl, hb3⟩
  go_wp2
  go_ret
  exact ⟨rfl, hbx.trans (hb3.mono hbx.size)⟩

theorem eqTxS_same (v v' : Value) (l : List Td) (w : World) {lo hi lo' hi' : Nat} (h : TxsAt lo hi w v l) (h' : TxsAt lo' hi' w v' l) :
    Calls Tryz.prog 37 #[v, v'] w fun e w' => e = .returned (.bool true) ∧ Below w.heap.size w w' := by
  obtain ⟨a, cap, rfl, hm, hc⟩ := h
  obtain ⟨a', cap', rfl, _, hc'⟩ := h'
  unfold maxLen at hm
  go_enter Tryz.func37, Tryz.ntmps37
  go_wp2
  go_loopw [5] (fun i wr => ∃ k : Nat, k ≤ l.length ∧ i = .int .i64 k ∧ Below w.heap.size w wr) (fun i _ => l.length - (intOf i).toNat)
  case atStart => exact ⟨0, Nat.zero_le _, rfl, Below.refl _ _⟩
  case round =>
    obtain ⟨k, hk, rfl, hb⟩ := hrel
    by_cases hlt : k < l.length
    · obtain ⟨b, off, rfl, _, _, hcc⟩ := hc (by omega)
      obtain ⟨b', off', rfl, _, _, hcc'⟩ := hc' (by omega)
      obtain ⟨c0, c1, ca, cb, c2, c3⟩ := hcc k hlt
      obtain ⟨d0, d1, da, db, d2, d3⟩ := hcc' k hlt
      replace c0 := cell_stays hb c0
      replace c1 := cell_stays hb c1
      replace c2 := cell_stays hb c2
      replace d0 := cell_stays hb d0
      replace d1 := cell_stays hb d1
      replace d2 := cell_stays hb d2
      replace c3 := c3.stays hb
      replace d3 := d3.stays hb
      have i0 : (0 : Int) ≤ (k : Int) := by omega
      have i1 : (k : Int) < (l.length : Int) := by omega
      clear hcc hc hcc' hc'
      go_wp2_with fail
      go_region_held3 (fun x => Below w.heap.size w x ∧ x.cell? ⟨b, off + k * 3, none⟩ = some (.int .i64 (tAt l k).i) ∧ x.cell? ⟨b, off + k * 3 + 1, none⟩ = some (.int .i64 (tAt l k).s) ∧ x.cell? ⟨b, off + k * 3 + 1 + 1, none⟩ = some (.slice ca (tAt l k).w.length cb) ∧ x.cell? ⟨b', off' + k * 3, none⟩ = some (.int .i64 (tAt l k).i) ∧ x.cell? ⟨b', off' + k * 3 + 1, none⟩ = some (.int .i64 (tAt l k).s) ∧ x.cell? ⟨b', off' + k * 3 + 1 + 1, none⟩ = some (.slice da (tAt l k).w.length db))
        (first | exact six_kept (by assumption) hb1 | exact ⟨hb.drew, c0, c1, c2, d0, d1, d2⟩)
        (first | (go_at_call 73; refine (eqTx_same _ _ _ _ (tAt l k).w _ (c3.stays (Below.refl _ _).drew) (d3.stays (Below.refl _ _).drew)).mono ?_; rintro e w1 ⟨rfl, hb1⟩))
      rename_i hH
      go_wp2
      go_roundw
      case rel => exact ⟨k + 1, by omega, by go_num, hH.1⟩
      case measure => simp [intOf]; omega
    · go_wp2
      go_ret
      exact ⟨rfl, hb⟩

theorem eqMgr_same (vs vt ve vs' vt' ve' : Value) (m : Md) (w : World) {lo hi lo' hi' : Nat} (h : MAt lo hi w vs vt ve m) (h' : MAt lo' hi' w vs' vt' ve' m) :
    Calls Tryz.prog 12 #[.agg #[vs, .int .i64 m.c, .int .i64 m.n, vt, ve], .agg #[vs', .int .i64 m.c, .int .i64 m.n, vt', ve']] w fun e w' => e = .returned (.bool true) ∧ Below w.heap.size w w' := by
  obtain ⟨a1, cap1, hv1⟩ : ∃ a cap, vs = .slice a m.s.length cap := by obtain ⟨a, cap, h1, _⟩ := h.s; exact ⟨a, cap, h1⟩
  obtain ⟨a2, cap2, hv2⟩ : ∃ a cap, vt = .slice a m.x.length cap := by obtain ⟨a, cap, h1, _⟩ := h.x; exact ⟨a, cap, h1⟩
  obtain ⟨a3, cap3, hv3⟩ : ∃ a cap, ve = .slice a m.h.length cap := by obtain ⟨a, cap, h1, _⟩ := h.h; exact ⟨a, cap, h1⟩
  obtain ⟨a1', cap1', hv1'⟩ : ∃ a cap, vs' = .slice a m.s.length cap := by obtain ⟨a, cap, h1, _⟩ := h'.s; exact ⟨a, cap, h1⟩
  obtain ⟨a2', cap2', hv2'⟩ : ∃ a cap, vt' = .slice a m.x.length cap := by obtain ⟨a, cap, h1, _⟩ := h'.x; exact ⟨a, cap, h1⟩
  obtain ⟨a3', cap3', hv3'⟩ : ∃ a cap, ve' = .slice a m.h.length cap := by obtain ⟨a, cap, h1, _⟩ := h'.h; exact ⟨a, cap, h1⟩
  subst hv1 hv2 hv3 hv1' hv2' hv3'
  have hbx : Below w.heap.size w ((w.alloc (Obj.cells #[Value.slice a1 m.s.length cap1, .int .i64 m.c, .int .i64 m.n, Value.slice a2 m.x.length cap2, Value.slice a3 m.h.length cap3] 36)).alloc (Obj.cells #[Value.slice a1' m.s.length cap1', .int .i64 m.c, .int .i64 m.n, Value.slice a2' m.x.length cap2', Value.slice a3' m.h.length cap3'] 36)) := ((Below.refl _ _).alloc (Nat.le_refl _) _).alloc (by simp) _
  go_enter Tryz.func12, Tryz.ntmps12
  go_wp2_with fail
  refine (eqStore_same _ _ m.s _ (h.s.stays hbx) (h'.s.stays hbx)).mono ?_
  rintro e w1 ⟨rfl, hb1⟩
  obtain ⟨hc1, hf1⟩ := bcell hb1
  have hz1 : w.heap.size + 1 < w1.heap.size := by have := hb1.size; simp at this; omega
  have hz1a : w.heap.size < w1.heap.size := by omega
  have b1 := hbx.trans (hb1.mono hbx.size)
  go_wp2_with fail
  refine (eqTxS_same _ _ m.x _ (h.x.stays b1) (h'.x.stays b1)).mono ?_
  rintro e w2 ⟨rfl, hb2⟩
  obtain ⟨hc2, hf2⟩ := bcell hb2
  have b2 := b1.trans (hb2.mono b1.size)
  go_wp2_with fail
  refine (eqEvS_same _ _ m.h _ (h.h.stays b2) (h'.h.stays b2)).mono ?_
  rintro e w3 ⟨rfl, hb3⟩
  have b3 := b2.trans (hb3.mono b2.size)
  go_wp2
  go_ret
  exact ⟨rfl, b3⟩

end Go.Proofs.YtmecbppblbmchaaGreatDoor

/- Addresses of cells that are read. -/
namespace Go.Proofs.YtmecbppblbmchaaGreatDoor
open Go.ChangeShapes Go.WideShapes Go.ChangeAt Go.RowKit Go.Deep Go.Joins
set_option linter.unusedVariables false

theorem add_plain {w : World} {a : Addr} {j : Nat} {v : Value} (h : w.cell? (a.add j) = some v) : a.add j = ⟨a.block, a.off + j, none⟩ := by
  have hs := World.cell?_spot h
  unfold Addr.add at hs ⊢
  obtain ⟨b, o, s⟩ := a
  by_cases hj : j = 0
  · simp [hj] at hs ⊢; exact hs
  · simp [hj] at hs ⊢; try exact hs

theorem spot_plain {w : World} {a : Addr} {v : Value} (h : w.cell? (a.add 0) = some v) : a = ⟨a.block, a.off, none⟩ := by
  have := add_plain h
  simpa [Addr.add] using this

end Go.Proofs.YtmecbppblbmchaaGreatDoor

/- From the reading of an argument to the plain data: versions, chains, a store, a key. -/
namespace Go.Proofs.YtmecbppblbmchaaGreatDoor
open Go.ChangeShapes Go.WideShapes Go.ChangeAt Go.RowKit Go.Deep Go.Joins
set_option linter.unusedVariables false
set_option maxRecDepth 100000

section
variable {H : Type} {enc : TypeId × Value → H} {W : World}

theorem open_vers {fuel : Nat} {cs : List Value} {x : DataW H × List MemPlace} (h : DataW.trod enc Tryz.prog W 0 (fun _ => true) true fuel 142 cs = some x) :
    ∃ a n cap l, cs = [.slice a n cap] ∧ n = l.length ∧ VersAt 0 W.heap.size W (.slice a n cap) l := by
  rcases open_slice_pairs Tryz.underlying142 Tryz.underlying213 (by kernel_rfl) rfl rfl (by kernel_rfl) (by kernel_rfl) h with ⟨rfl, _⟩ | ⟨a, len, cap, m, n, V0, V1, D0, D1, P0, P1, rfl, _, hl, hm, hmm, _, hx⟩
  · exact ⟨none, 0, 0, [], rfl, rfl, none, 0, rfl, Nat.zero_le _, fun h => absurd h (Nat.lt_irrefl _)⟩
  · obtain rfl : m = cap := by simpa using hmm
    obtain ⟨f, hf⟩ := choose_lt (α := Vr) (n := len) (p := fun i q => V0 i = .int .i64 q.1 ∧ V1 i = .int .i64 q.2) (fun i hi => by
      obtain ⟨_, _, h0, h1⟩ := hx i (by omega)
      obtain ⟨n0, e0, _, _⟩ := DataW.trod_int Tryz.underlying3 h0
      obtain ⟨n1, e1, _, _⟩ := DataW.trod_int Tryz.underlying3 h1
      exact ⟨(n0, n1), by simpa using e0, by simpa using e1⟩)
    refine ⟨some a, len, m, (List.range len).map f, rfl, by simp, some a, m, by simp, by simp; omega, fun hp => ?_⟩
    have hlen : 0 < len := by simpa using hp
    have ha := spot_plain (by simpa using (hx 0 (by omega)).1)
    refine ⟨a.block, a.off, by rw [← ha], Nat.zero_le _, cell_lt (hx 0 (by omega)).1 |> fun h => by simpa [Addr.add] using h, fun i hi => ?_⟩
    have hi' : i < len := by simpa using hi
    obtain ⟨g0, g1, _, _⟩ := hx i (by omega)
    have e : vAt ((List.range len).map f) i = f i := by simp [vAt, hi']
    rw [add_plain g0, (hf i hi').1] at g0
    rw [add_plain g1, (hf i hi').2] at g1
    rw [e]
    exact ⟨g0, by simpa [Nat.add_assoc] using g1⟩

theorem open_key_cells {fuel : Nat} {cs : List Value} {x : DataW H × List MemPlace} (h : DataW.trod enc Tryz.prog W 0 (fun _ => true) true fuel 44 cs = some x) :
    ∃ a b : Int, cs = [.int .i64 a, .int .i64 b] ∧ wf a ∧ wf b := by
  obtain ⟨y0, y1, n, _, hlen, h0, h1⟩ := trod_struct2 Tryz.underlying44 h
  have hc : Tryz.prog.cellsOf 44 = 2 := by kernel_rfl
  have hi : Tryz.prog.cellsOf 3 = 1 := by kernel_rfl
  rw [hc] at hlen
  match cs, hlen with
  | [v0, v1], _ =>
    simp only [hi] at h0 h1
    obtain ⟨n0, e0, _, w0⟩ := DataW.trod_int Tryz.underlying3 h0
    obtain ⟨n1, e1, _, w1⟩ := DataW.trod_int Tryz.underlying3 h1
    simp at e0 e1
    exact ⟨n0, n1, by rw [e0, e1], w0, w1⟩

theorem open_chains {fuel : Nat} {cs : List Value} {x : DataW H × List MemPlace} (h : DataW.trod enc Tryz.prog W 0 (fun _ => true) true fuel 22 cs = some x) :
    ∃ v l, cs = [v] ∧ ChainsAt 0 W.heap.size W v l ∧ WfCh l := by
  have hce : Tryz.prog.cellsOf 144 = 3 := by kernel_rfl
  have hck : Tryz.prog.cellsOf 44 = 2 := by kernel_rfl
  have hcl : Tryz.prog.cellsOf 142 = 1 := by kernel_rfl
  rcases open_slice Tryz.underlying22 h with ⟨rfl, _⟩ | ⟨a, len, cap, m, n, D, Pl, rfl, _, hl, hm, hmm, _, hx⟩
  · exact ⟨_, [], rfl, ⟨none, 0, rfl, Nat.zero_le _, fun h => absurd h (Nat.lt_irrefl _)⟩, fun i hi => absurd hi (Nat.not_lt_zero _)⟩
  · obtain rfl : m = cap := by simpa using hmm
    have inh : Inhabited Ch := ⟨ch0⟩
    obtain ⟨f, hf⟩ := choose_lt (α := Ch) (n := len) (p := fun i q => W.cell? (a.add (i * 3)) = some (.int .i64 q.t) ∧ W.cell? (a.add (i * 3 + 1)) = some (.int .i64 q.r) ∧
        ∃ a' c', W.cell? (a.add (i * 3 + 2)) = some (.slice a' q.l.length c') ∧ VersAt 0 W.heap.size W (.slice a' q.l.length c') q.l ∧ wf q.t ∧ wf q.r) (fun i hi => by
      obtain ⟨cs', h1, h2⟩ := hx i (by omega)
      rw [hce] at h1
      obtain ⟨_, hlen, hcell⟩ := World.cells?_some h1
      obtain ⟨y0, y1, n, _, _, h0, h1⟩ := trod_struct2 Tryz.underlying144 h2
      match cs', hlen with
      | [v0, v1, v2], _ =>
        simp only [hck, hcl] at h0 h1
        obtain ⟨k0, k1, ek, wk0, wk1⟩ := open_key_cells h0
        obtain ⟨a', n', c', l', el, rfl, hv⟩ := open_vers h1
        simp at ek el
        have e0 := hcell 0 (by omega)
        have e1 := hcell 1 (by omega)
        have e2 := hcell 2 (by omega)
        rw [add_add] at e0 e1 e2
        refine ⟨⟨k0, k1, l'⟩, ?_, ?_, a', c', ?_, hv, wk0, wk1⟩
        · simpa [ek.1] using e0
        · simpa [ek.2] using e1
        · simpa [el] using e2)
    refine ⟨.slice (some a) len m, (List.range len).map f, rfl, ⟨some a, m, by simp, by simp; omega, fun hp => ?_⟩, fun i hi => by
      have hi' : i < len := by simpa using hi
      have e : cAt ((List.range len).map f) i = f i := by simp [cAt, hi']
      obtain ⟨_, _, _, _, _, _, g⟩ := hf i hi'
      rw [e]; exact g⟩
    have hlen : 0 < len := by simpa using hp
    have ha := spot_plain (by simpa using (hf 0 (by omega)).1)
    refine ⟨a.block, a.off, by rw [← ha], Nat.zero_le _, cell_lt (hf 0 (by omega)).1 |> fun h => by simpa [Addr.add] using h, fun i hi => ?_⟩
    have hi' : i < len := by simpa using hi
    obtain ⟨g0, g1, a', c', g2, g3, _⟩ := hf i hi'
    have e : cAt ((List.range len).map f) i = f i := by simp [cAt, hi']
    rw [add_plain g0] at g0
    rw [add_plain g1] at g1
    rw [add_plain g2] at g2
    rw [e]
    exact ⟨g0, by simpa [Nat.add_assoc] using g1, a', c', by simpa [Nat.add_assoc] using g2, g3⟩

theorem open_store {r : Reach} {b0 : Nat} {v0 : Value} {d : DataW H} {p : List MemPlace} (hv : Value.okWide Tryz.prog W r b0 24 v0) (h : DataW.Trod enc Tryz.prog W 0 (fun _ => true) true 24 v0 d p) :
    ∃ v l, v0 = .agg #[v] ∧ ChainsAt 0 W.heap.size W v l ∧ WfCh l := by
  obtain ⟨cs, rfl, hsz⟩ := okWide_struct Tryz.underlying24 hv
  have hc : Tryz.prog.cellsOf 24 = 1 := by kernel_rfl
  have hcl : Tryz.prog.cellsOf 22 = 1 := by kernel_rfl
  rw [hc] at hsz
  obtain ⟨fuel, hf⟩ := h
  obtain ⟨y0, n, _, _, h0⟩ := trod_struct1 Tryz.underlying24 hf
  obtain ⟨c, rfl⟩ : ∃ c, cs = #[c] := by
    match cs, hsz with
    | ⟨[c]⟩, _ => exact ⟨c, rfl⟩
  simp only [hcl] at h0
  obtain ⟨v, l, e, hl, hw⟩ := open_chains h0
  simp [Value.cells] at e
  exact ⟨v, l, by rw [e], hl, hw⟩

theorem open_key {r : Reach} {b0 : Nat} {v0 : Value} {d : DataW H} {p : List MemPlace} (hv : Value.okWide Tryz.prog W r b0 44 v0) (h : DataW.Trod enc Tryz.prog W 0 (fun _ => true) true 44 v0 d p) :
    ∃ a b : Int, v0 = .agg #[.int .i64 a, .int .i64 b] ∧ wf a ∧ wf b := by
  obtain ⟨c0, c1, y0, y1, m, rfl, _, _, hy0, hy1⟩ := open_agg2 Tryz.underlying44 (by kernel_rfl) (by kernel_rfl) hv h
  obtain ⟨x, e0, _, w0⟩ := DataW.trod_int Tryz.underlying3 hy0
  obtain ⟨y, e1, _, w1⟩ := DataW.trod_int Tryz.underlying3 hy1
  simp at e0 e1
  exact ⟨x, y, by rw [e0, e1], w0, w1⟩

end
end Go.Proofs.YtmecbppblbmchaaGreatDoor
