import Derived.Test.YtmecbppblbmchaaGreatDoorRows
import Derived.Test.YtmecbppblbmchaaGreatDoorCopy
import Derived.Deep.SlicePairs
import Derived.Lib.SmallJoins
import Derived.Test.YtmecbppblbmchaaGreatDoorMData
import Derived.Test.YtmecbppblbmchaaGreatDoorLastV
import Derived.Test.YtmecbppblbmchaaGreatDoorMRoom
import Derived.Test.YtmecbppblbmchaaGreatDoorMSpec2
/- Addresses of cells that are read. -/
namespace Go.Proofs.YtmecbppblbmchaaGreatDoor
open Go.ChangeShapes Go.WideShapes Go.ChangeAt Go.RowKit Go.Deep Go.Joins
set_option linter.unusedVariables false

theorem add_plain {w : World} {a : Addr} {j : Nat} {v : Value} (h : w.cell? (a.add j) = some v) : a.add j = ⟨a.block, a.off + j, none⟩ := by
  have hs := World.cell?_spot h
  unfold Addr.add at hs ⊢
  obtain ⟨b, o, s⟩ := a
  by_cases hj : j = 0
  · simp [hj] at hs ⊢; exact hs
  · simp [hj] at hs ⊢; try exact hs

theorem spot_plain {w : World} {a : Addr} {v : Value} (h : w.cell? (a.add 0) = some v) : a = ⟨a.block, a.off, none⟩ := by
  have := add_plain h
  simpa [Addr.add] using this

end Go.Proofs.YtmecbppblbmchaaGreatDoor

/- From the reading of an argument to the plain data: versions, chains, a store, a key. -/
namespace Go.Proofs.YtmecbppblbmchaaGreatDoor
open Go.ChangeShapes Go.WideShapes Go.ChangeAt Go.RowKit Go.Deep Go.Joins
set_option linter.unusedVariables false
set_option maxRecDepth 100000

section
variable {H : Type} {enc : TypeId × Value → H} {W : World}

theorem open_vers {fuel : Nat} {cs : List Value} {x : DataW H × List MemPlace} (h : DataW.trod enc Tryz.prog W 0 (fun _ => true) true fuel 142 cs = some x) :
    ∃ a n cap l, cs = [.slice a n cap] ∧ n = l.length ∧ VersAt 0 W.heap.size W (.slice a n cap) l := by
  rcases open_slice_pairs Tryz.underlying142 Tryz.underlying213 (by kernel_rfl) rfl rfl (by kernel_rfl) (by kernel_rfl) h with ⟨rfl, _⟩ | ⟨a, len, cap, m, n, V0, V1, D0, D1, P0, P1, rfl, _, hl, hm, hmm, _, hx⟩
  · exact ⟨none, 0, 0, [], rfl, rfl, none, 0, rfl, Nat.zero_le _, fun h => absurd h (Nat.lt_irrefl _)⟩
  · obtain rfl : m = cap := by simpa using hmm
    obtain ⟨f, hf⟩ := choose_lt (α := Vr) (n := len) (p := fun i q => V0 i = .int .i64 q.1 ∧ V1 i = .int .i64 q.2) (fun i hi => by
      obtain ⟨_, _, h0, h1⟩ := hx i (by omega)
      obtain ⟨n0, e0, _, _⟩ := DataW.trod_int Tryz.underlying3 h0
      obtain ⟨n1, e1, _, _⟩ := DataW.trod_int Tryz.underlying3 h1
      exact ⟨(n0, n1), by simpa using e0, by simpa using e1⟩)
    refine ⟨some a, len, m, (List.range len).map f, rfl, by simp, some a, m, by simp, by simp; omega, fun hp => ?_⟩
    have hlen : 0 < len := by simpa using hp
    have ha := spot_plain (by simpa using (hx 0 (by omega)).1)
    refine ⟨a.block, a.off, by rw [← ha], Nat.zero_le _, cell_lt (hx 0 (by omega)).1 |> fun h => by simpa [Addr.add] using h, fun i hi => ?_⟩
    have hi' : i < len := by simpa using hi
    obtain ⟨g0, g1, _, _⟩ := hx i (by omega)
    have e : vAt ((List.range len).map f) i = f i := by simp [vAt, hi']
    rw [add_plain g0, (hf i hi').1] at g0
    rw [add_plain g1, (hf i hi').2] at g1
    rw [e]
    exact ⟨g0, by simpa [Nat.add_assoc] using g1⟩

theorem open_key_cells {fuel : Nat} {cs : List Value} {x : DataW H × List MemPlace} (h : DataW.trod enc Tryz.prog W 0 (fun _ => true) true fuel 44 cs = some x) :
    ∃ a b : Int, cs = [.int .i64 a, .int .i64 b] ∧ wf a ∧ wf b := by
  obtain ⟨y0, y1, n, _, hlen, h0, h1⟩ := trod_struct2 Tryz.underlying44 h
  have hc : Tryz.prog.cellsOf 44 = 2 := by kernel_rfl
  have hi : Tryz.prog.cellsOf 3 = 1 := by kernel_rfl
  rw [hc] at hlen
  match cs, hlen with
  | [v0, v1], _ =>
    simp only [hi] at h0 h1
    obtain ⟨n0, e0, _, w0⟩ := DataW.trod_int Tryz.underlying3 h0
    obtain ⟨n1, e1, _, w1⟩ := DataW.trod_int Tryz.underlying3 h1
    simp at e0 e1
    exact ⟨n0, n1, by rw [e0, e1], w0, w1⟩

theorem open_chains {fuel : Nat} {cs : List Value} {x : DataW H × List MemPlace} (h : DataW.trod enc Tryz.prog W 0 (fun _ => true) true fuel 22 cs = some x) :
    ∃ v l, cs = [v] ∧ ChainsAt 0 W.heap.size W v l ∧ WfCh l := by
  have hce : Tryz.prog.cellsOf 144 = 3 := by kernel_rfl
  have hck : Tryz.prog.cellsOf 44 = 2 := by kernel_rfl
  have hcl : Tryz.prog.cellsOf 142 = 1 := by kernel_rfl
  rcases open_slice Tryz.underlying22 h with ⟨rfl, _⟩ | ⟨a, len, cap, m, n, D, Pl, rfl, _, hl, hm, hmm, _, hx⟩
  · exact ⟨_, [], rfl, ⟨none, 0, rfl, Nat.zero_le _, fun h => absurd h (Nat.lt_irrefl _)⟩, fun i hi => absurd hi (Nat.not_lt_zero _)⟩
  · obtain rfl : m = cap := by simpa using hmm
    have inh : Inhabited Ch := ⟨ch0⟩
    obtain ⟨f, hf⟩ := choose_lt (α := Ch) (n := len) (p := fun i q => W.cell? (a.add (i * 3)) = some (.int .i64 q.t) ∧ W.cell? (a.add (i * 3 + 1)) = some (.int .i64 q.r) ∧
        ∃ a' c', W.cell? (a.add (i * 3 + 2)) = some (.slice a' q.l.length c') ∧ VersAt 0 W.heap.size W (.slice a' q.l.length c') q.l ∧ wf q.t ∧ wf q.r) (fun i hi => by
      obtain ⟨cs', h1, h2⟩ := hx i (by omega)
      rw [hce] at h1
      obtain ⟨_, hlen, hcell⟩ := World.cells?_some h1
      obtain ⟨y0, y1, n, _, _, h0, h1⟩ := trod_struct2 Tryz.underlying144 h2
      match cs', hlen with
      | [v0, v1, v2], _ =>
        simp only [hck, hcl] at h0 h1
        obtain ⟨k0, k1, ek, wk0, wk1⟩ := open_key_cells h0
        obtain ⟨a', n', c', l', el, rfl, hv⟩ := open_vers h1
        simp at ek el
        have e0 := hcell 0 (by omega)
        have e1 := hcell 1 (by omega)
        have e2 := hcell 2 (by omega)
        rw [add_add] at e0 e1 e2
        refine ⟨⟨k0, k1, l'⟩, ?_, ?_, a', c', ?_, hv, wk0, wk1⟩
        · simpa [ek.1] using e0
        · simpa [ek.2] using e1
        · simpa [el] using e2)
    refine ⟨.slice (some a) len m, (List.range len).map f, rfl, ⟨some a, m, by simp, by simp; omega, fun hp => ?_⟩, fun i hi => by
      have hi' : i < len := by simpa using hi
      have e : cAt ((List.range len).map f) i = f i := by simp [cAt, hi']
      obtain ⟨_, _, _, _, _, _, g⟩ := hf i hi'
      rw [e]; exact g⟩
    have hlen : 0 < len := by simpa using hp
    have ha := spot_plain (by simpa using (hf 0 (by omega)).1)
    refine ⟨a.block, a.off, by rw [← ha], Nat.zero_le _, cell_lt (hf 0 (by omega)).1 |> fun h => by simpa [Addr.add] using h, fun i hi => ?_⟩
    have hi' : i < len := by simpa using hi
    obtain ⟨g0, g1, a', c', g2, g3, _⟩ := hf i hi'
    have e : cAt ((List.range len).map f) i = f i := by simp [cAt, hi']
    rw [add_plain g0] at g0
    rw [add_plain g1] at g1
    rw [add_plain g2] at g2
    rw [e]
    exact ⟨g0, by simpa [Nat.add_assoc] using g1, a', c', by simpa [Nat.add_assoc] using g2, g3⟩

theorem open_store {r : Reach} {b0 : Nat} {v0 : Value} {d : DataW H} {p : List MemPlace} (hv : Value.okWide Tryz.prog W r b0 24 v0) (h : DataW.Trod enc Tryz.prog W 0 (fun _ => true) true 24 v0 d p) :
    ∃ v l, v0 = .agg #[v] ∧ ChainsAt 0 W.heap.size W v l ∧ WfCh l := by
  obtain ⟨cs, rfl, hsz⟩ := okWide_struct Tryz.underlying24 hv
  have hc : Tryz.prog.cellsOf 24 = 1 := by kernel_rfl
  have hcl : Tryz.prog.cellsOf 22 = 1 := by kernel_rfl
  rw [hc] at hsz
  obtain ⟨fuel, hf⟩ := h
  obtain ⟨y0, n, _, _, h0⟩ := trod_struct1 Tryz.underlying24 hf
  obtain ⟨c, rfl⟩ : ∃ c, cs = #[c] := by
    match cs, hsz with
    | ⟨[c]⟩, _ => exact ⟨c, rfl⟩
  simp only [hcl] at h0
  obtain ⟨v, l, e, hl, hw⟩ := open_chains h0
  simp [Value.cells] at e
  exact ⟨v, l, by rw [e], hl, hw⟩

theorem open_key {r : Reach} {b0 : Nat} {v0 : Value} {d : DataW H} {p : List MemPlace} (hv : Value.okWide Tryz.prog W r b0 44 v0) (h : DataW.Trod enc Tryz.prog W 0 (fun _ => true) true 44 v0 d p) :
    ∃ a b : Int, v0 = .agg #[.int .i64 a, .int .i64 b] ∧ wf a ∧ wf b := by
  obtain ⟨c0, c1, y0, y1, m, rfl, _, _, hy0, hy1⟩ := open_agg2 Tryz.underlying44 (by kernel_rfl) (by kernel_rfl) hv h
  obtain ⟨x, e0, _, w0⟩ := DataW.trod_int Tryz.underlying3 hy0
  obtain ⟨y, e1, _, w1⟩ := DataW.trod_int Tryz.underlying3 hy1
  simp at e0 e1
  exact ⟨x, y, by rw [e0, e1], w0, w1⟩

end
end Go.Proofs.YtmecbppblbmchaaGreatDoor

/- From the reading of an argument to the plain data: rows, transactions, events, the whole. -/
namespace Go.Proofs.YtmecbppblbmchaaGreatDoor
open Go.ChangeShapes Go.WideShapes Go.ChangeAt Go.RowKit Go.Deep Go.Joins
set_option linter.unusedVariables false
set_option maxRecDepth 100000

section
variable {H : Type} {enc : TypeId × Value → H} {W : World}

theorem trod_struct5 {t : TypeId} {f0 f1 f2 f3 f4 : Field} {fuel : Nat} {cs : List Value} {x : DataW H × List MemPlace} (ht : Tryz.prog.underlying t = some (.struct #[f0, f1, f2, f3, f4])) (h : DataW.trod enc Tryz.prog W 0 (fun _ => true) true fuel t cs = some x) :
    ∃ y0 y1 y2 y3 y4 n, cs.length = Tryz.prog.cellsOf t ∧ DataW.trod enc Tryz.prog W 0 (fun _ => true) true n f0.type ((cs.drop f0.offset).take (Tryz.prog.cellsOf f0.type)) = some y0 ∧ DataW.trod enc Tryz.prog W 0 (fun _ => true) true n f1.type ((cs.drop f1.offset).take (Tryz.prog.cellsOf f1.type)) = some y1 ∧
      DataW.trod enc Tryz.prog W 0 (fun _ => true) true n f2.type ((cs.drop f2.offset).take (Tryz.prog.cellsOf f2.type)) = some y2 ∧ DataW.trod enc Tryz.prog W 0 (fun _ => true) true n f3.type ((cs.drop f3.offset).take (Tryz.prog.cellsOf f3.type)) = some y3 ∧ DataW.trod enc Tryz.prog W 0 (fun _ => true) true n f4.type ((cs.drop f4.offset).take (Tryz.prog.cellsOf f4.type)) = some y4 := by
  obtain ⟨xs, n, _, rfl, hl, hlen, hf⟩ := DataW.trod_struct ht h
  match xs, hlen with
  | [y0, y1, y2, y3, y4], _ => exact ⟨y0, y1, y2, y3, y4, n, hl, by simpa using hf 0 f0 rfl, by simpa using hf 1 f1 rfl, by simpa using hf 2 f2 rfl, by simpa using hf 3 f3 rfl, by simpa using hf 4 f4 rfl⟩

theorem open_rows {fuel : Nat} {cs : List Value} {x : DataW H × List MemPlace} (h : DataW.trod enc Tryz.prog W 0 (fun _ => true) true fuel 86 cs = some x) :
    ∃ a n cap l, cs = [.slice a n cap] ∧ n = l.length ∧ RowsAt 0 W.heap.size W (.slice a n cap) l ∧ WfRw l := by
  have hce : Tryz.prog.cellsOf 187 = 3 := by kernel_rfl
  have hck : Tryz.prog.cellsOf 44 = 2 := by kernel_rfl
  have hci : Tryz.prog.cellsOf 3 = 1 := by kernel_rfl
  rcases open_slice Tryz.underlying86 h with ⟨rfl, _⟩ | ⟨a, len, cap, m, n, D, Pl, rfl, _, hl, hm, hmm, _, hx⟩
  · exact ⟨none, 0, 0, [], rfl, rfl, ⟨none, 0, rfl, Nat.zero_le _, fun h => absurd h (Nat.lt_irrefl _)⟩, fun i hi => absurd hi (Nat.not_lt_zero _)⟩
  · obtain rfl : m = cap := by simpa using hmm
    have inh : Inhabited Rw := ⟨rw0⟩
    obtain ⟨f, hf⟩ := choose_lt (α := Rw) (n := len) (p := fun i q => W.cell? (a.add (i * 3)) = some (.int .i64 q.t) ∧ W.cell? (a.add (i * 3 + 1)) = some (.int .i64 q.r) ∧ W.cell? (a.add (i * 3 + 2)) = some (.int .i64 q.v) ∧ wf q.t ∧ wf q.r) (fun i hi => by
      obtain ⟨cs', h1, h2⟩ := hx i (by omega)
      rw [hce] at h1
      obtain ⟨_, hlen, hcell⟩ := World.cells?_some h1
      obtain ⟨y0, y1, n, _, _, h0, h1⟩ := trod_struct2 Tryz.underlying187 h2
      match cs', hlen with
      | [v0, v1, v2], _ =>
        simp only [hck, hci] at h0 h1
        obtain ⟨k0, k1, ek, wk0, wk1⟩ := open_key_cells h0
        obtain ⟨n1, e1', _, w1⟩ := DataW.trod_int Tryz.underlying3 h1
        simp at ek e1'
        have e0 := hcell 0 (by omega)
        have e1 := hcell 1 (by omega)
        have e2 := hcell 2 (by omega)
        rw [add_add] at e0 e1 e2
        refine ⟨⟨k0, k1, n1⟩, ?_, ?_, ?_, wk0, wk1⟩
        · simpa [ek.1] using e0
        · simpa [ek.2] using e1
        · simpa [e1'] using e2)
    refine ⟨some a, len, m, (List.range len).map f, rfl, by simp, ⟨some a, m, by simp, by simp; omega, fun hp => ?_⟩, fun i hi => by
      have hi' : i < len := by simpa using hi
      have e : rAt ((List.range len).map f) i = f i := by simp [rAt, hi']
      obtain ⟨_, _, _, g⟩ := hf i hi'
      rw [e]; exact g⟩
    have hlen : 0 < len := by simpa using hp
    have ha := spot_plain (by simpa using (hf 0 (by omega)).1)
    refine ⟨a.block, a.off, by rw [← ha], Nat.zero_le _, cell_lt (hf 0 (by omega)).1 |> fun h => by simpa [Addr.add] using h, fun i hi => ?_⟩
    have hi' : i < len := by simpa using hi
    obtain ⟨g0, g1, g2, _⟩ := hf i hi'
    have e : rAt ((List.range len).map f) i = f i := by simp [rAt, hi']
    rw [add_plain g0] at g0
    rw [add_plain g1] at g1
    rw [add_plain g2] at g2
    rw [e]
    exact ⟨g0, by simpa [Nat.add_assoc] using g1, by simpa [Nat.add_assoc] using g2⟩

theorem open_evs {fuel : Nat} {cs : List Value} {x : DataW H × List MemPlace} (h : DataW.trod enc Tryz.prog W 0 (fun _ => true) true fuel 26 cs = some x) :
    ∃ v l, cs = [v] ∧ EvsAt 0 W.heap.size W v l := by
  have hce : Tryz.prog.cellsOf 106 = 6 := by kernel_rfl
  have hck : Tryz.prog.cellsOf 44 = 2 := by kernel_rfl
  have hci : Tryz.prog.cellsOf 3 = 1 := by kernel_rfl
  rcases open_slice Tryz.underlying26 h with ⟨rfl, _⟩ | ⟨a, len, cap, m, n, D, Pl, rfl, _, hl, hm, hmm, _, hx⟩
  · exact ⟨_, [], rfl, none, 0, rfl, Nat.zero_le _, fun h => absurd h (Nat.lt_irrefl _)⟩
  · obtain rfl : m = cap := by simpa using hmm
    have inh : Inhabited Ed := ⟨ed0⟩
    obtain ⟨f, hf⟩ := choose_lt (α := Ed) (n := len) (p := fun i q => W.cell? (a.add (i * 6)) = some (.int .i64 q.k) ∧ W.cell? (a.add (i * 6 + 1)) = some (.int .i64 q.x) ∧ W.cell? (a.add (i * 6 + 2)) = some (.int .i64 q.t) ∧ W.cell? (a.add (i * 6 + 3)) = some (.int .i64 q.r) ∧ W.cell? (a.add (i * 6 + 4)) = some (.int .i64 q.v) ∧ W.cell? (a.add (i * 6 + 5)) = some (.int .i64 q.a)) (fun i hi => by
      obtain ⟨cs', h1, h2⟩ := hx i (by omega)
      rw [hce] at h1
      obtain ⟨_, hlen, hcell⟩ := World.cells?_some h1
      obtain ⟨y0, y1, y2, y3, y4, n, _, h0, h1, h2, h3, h4⟩ := trod_struct5 Tryz.underlying106 h2
      match cs', hlen with
      | [v0, v1, v2, v3, v4, v5], _ =>
        simp only [hck, hci] at h0 h1 h2 h3 h4
        obtain ⟨n0, d0, _, _⟩ := DataW.trod_int Tryz.underlying3 h0
        obtain ⟨n1, d1, _, _⟩ := DataW.trod_int Tryz.underlying3 h1
        obtain ⟨k0, k1, ek, _, _⟩ := open_key_cells h2
        obtain ⟨n3, d3, _, _⟩ := DataW.trod_int Tryz.underlying3 h3
        obtain ⟨n4, d4, _, _⟩ := DataW.trod_int Tryz.underlying3 h4
        simp at ek d0 d1 d3 d4
        have e0 := hcell 0 (by omega)
        have e1 := hcell 1 (by omega)
        have e2 := hcell 2 (by omega)
        have e3 := hcell 3 (by omega)
        have e4 := hcell 4 (by omega)
        have e5 := hcell 5 (by omega)
        rw [add_add] at e0 e1 e2 e3 e4 e5
        refine ⟨⟨n0, n1, k0, k1, n3, n4⟩, ?_, ?_, ?_, ?_, ?_, ?_⟩
        · simpa [d0] using e0
        · simpa [d1] using e1
        · simpa [ek.1] using e2
        · simpa [ek.2] using e3
        · simpa [d3] using e4
        · simpa [d4] using e5)
    refine ⟨.slice (some a) len m, (List.range len).map f, rfl, some a, m, by simp, by simp; omega, fun hp => ?_⟩
    have hlen : 0 < len := by simpa using hp
    have ha := spot_plain (by simpa using (hf 0 (by omega)).1)
    refine ⟨a.block, a.off, by rw [← ha], Nat.zero_le _, cell_lt (hf 0 (by omega)).1 |> fun h => by simpa [Addr.add] using h, fun i hi => ?_⟩
    have hi' : i < len := by simpa using hi
    obtain ⟨g0, g1, g2, g3, g4, g5⟩ := hf i hi'
    have e : eAt ((List.range len).map f) i = f i := by simp [eAt, hi']
    rw [add_plain g0] at g0
    rw [add_plain g1] at g1
    rw [add_plain g2] at g2
    rw [add_plain g3] at g3
    rw [add_plain g4] at g4
    rw [add_plain g5] at g5
    rw [e]
    exact ⟨g0, by simpa [Nat.add_assoc] using g1, by simpa [Nat.add_assoc] using g2, by simpa [Nat.add_assoc] using g3, by simpa [Nat.add_assoc] using g4, by simpa [Nat.add_assoc] using g5⟩

theorem open_txs {fuel : Nat} {cs : List Value} {x : DataW H × List MemPlace} (h : DataW.trod enc Tryz.prog W 0 (fun _ => true) true fuel 25 cs = some x) :
    ∃ v l, cs = [v] ∧ TxsAt 0 W.heap.size W v l ∧ ∀ i, i < l.length → WfRw (tAt l i).w := by
  have hce : Tryz.prog.cellsOf 88 = 3 := by kernel_rfl
  have hci : Tryz.prog.cellsOf 3 = 1 := by kernel_rfl
  have hcl : Tryz.prog.cellsOf 86 = 1 := by kernel_rfl
  rcases open_slice Tryz.underlying25 h with ⟨rfl, _⟩ | ⟨a, len, cap, m, n, D, Pl, rfl, _, hl, hm, hmm, _, hx⟩
  · exact ⟨_, [], rfl, ⟨none, 0, rfl, Nat.zero_le _, fun h => absurd h (Nat.lt_irrefl _)⟩, fun i hi => absurd hi (Nat.not_lt_zero _)⟩
  · obtain rfl : m = cap := by simpa using hmm
    have inh : Inhabited Td := ⟨td0⟩
    obtain ⟨f, hf⟩ := choose_lt (α := Td) (n := len) (p := fun i q => W.cell? (a.add (i * 3)) = some (.int .i64 q.i) ∧ W.cell? (a.add (i * 3 + 1)) = some (.int .i64 q.s) ∧
        ∃ a' c', W.cell? (a.add (i * 3 + 2)) = some (.slice a' q.w.length c') ∧ RowsAt 0 W.heap.size W (.slice a' q.w.length c') q.w ∧ WfRw q.w) (fun i hi => by
      obtain ⟨cs', h1, h2⟩ := hx i (by omega)
      rw [hce] at h1
      obtain ⟨_, hlen, hcell⟩ := World.cells?_some h1
      obtain ⟨y0, y1, y2, n, _, _, h0, h1, h2⟩ := trod_struct3 Tryz.underlying88 h2
      match cs', hlen with
      | [v0, v1, v2], _ =>
        simp only [hci, hcl] at h0 h1 h2
        obtain ⟨n0, d0, _, _⟩ := DataW.trod_int Tryz.underlying3 h0
        obtain ⟨n1, d1, _, _⟩ := DataW.trod_int Tryz.underlying3 h1
        obtain ⟨a', n', c', l', el, rfl, hv, hwf⟩ := open_rows h2
        simp at d0 d1 el
        have e0 := hcell 0 (by omega)
        have e1 := hcell 1 (by omega)
        have e2 := hcell 2 (by omega)
        rw [add_add] at e0 e1 e2
        refine ⟨⟨n0, n1, l'⟩, ?_, ?_, a', c', ?_, hv, hwf⟩
        · simpa [d0] using e0
        · simpa [d1] using e1
        · simpa [el] using e2)
    refine ⟨.slice (some a) len m, (List.range len).map f, rfl, ⟨some a, m, by simp, by simp; omega, fun hp => ?_⟩, fun i hi => by
      have hi' : i < len := by simpa using hi
      have e : tAt ((List.range len).map f) i = f i := by simp [tAt, hi']
      obtain ⟨_, _, _, _, _, _, g⟩ := hf i hi'
      rw [e]; exact g⟩
    have hlen : 0 < len := by simpa using hp
    have ha := spot_plain (by simpa using (hf 0 (by omega)).1)
    refine ⟨a.block, a.off, by rw [← ha], Nat.zero_le _, cell_lt (hf 0 (by omega)).1 |> fun h => by simpa [Addr.add] using h, fun i hi => ?_⟩
    have hi' : i < len := by simpa using hi
    obtain ⟨g0, g1, a', c', g2, g3, _⟩ := hf i hi'
    have e : tAt ((List.range len).map f) i = f i := by simp [tAt, hi']
    rw [add_plain g0] at g0
    rw [add_plain g1] at g1
    rw [add_plain g2] at g2
    rw [e]
    exact ⟨g0, by simpa [Nat.add_assoc] using g1, a', c', by simpa [Nat.add_assoc] using g2, g3⟩

theorem open_mgr {r : Reach} {b0 : Nat} {v0 : Value} {d : DataW H} {p : List MemPlace} (hv : Value.okWide Tryz.prog W r b0 28 v0) (h : DataW.Trod enc Tryz.prog W 0 (fun _ => true) true 28 v0 d p) :
    ∃ vs vt ve m, v0 = .agg #[vs, .int .i64 m.c, .int .i64 m.n, vt, ve] ∧ MAt 0 W.heap.size W vs vt ve m ∧ WfM m := by
  obtain ⟨cs, rfl, hsz⟩ := okWide_struct Tryz.underlying28 hv
  have hc : Tryz.prog.cellsOf 28 = 5 := by kernel_rfl
  have hcs : Tryz.prog.cellsOf 24 = 1 := by kernel_rfl
  have hci : Tryz.prog.cellsOf 3 = 1 := by kernel_rfl
  have hct : Tryz.prog.cellsOf 25 = 1 := by kernel_rfl
  have hce : Tryz.prog.cellsOf 26 = 1 := by kernel_rfl
  have hcl : Tryz.prog.cellsOf 22 = 1 := by kernel_rfl
  rw [hc] at hsz
  obtain ⟨fuel, hf⟩ := h
  obtain ⟨y0, y1, y2, y3, y4, n, _, h0, h1, h2, h3, h4⟩ := trod_struct5 Tryz.underlying28 hf
  obtain ⟨u0, u1, u2, u3, u4, rfl⟩ : ∃ u0 u1 u2 u3 u4, cs = #[u0, u1, u2, u3, u4] := by
    match cs, hsz with
    | ⟨[u0, u1, u2, u3, u4]⟩, _ => exact ⟨u0, u1, u2, u3, u4, rfl⟩
  simp only [hcs, hci, hct, hce] at h0 h1 h2 h3 h4
  obtain ⟨y00, n0, _, _, h00⟩ := trod_struct1 Tryz.underlying24 h0
  simp only [hcl] at h00
  obtain ⟨v, l, e0, hl, hw⟩ := open_chains h00
  obtain ⟨n1, d1, _, _⟩ := DataW.trod_int Tryz.underlying3 h1
  obtain ⟨n2, d2, _, _⟩ := DataW.trod_int Tryz.underlying3 h2
  obtain ⟨vt, lt, e3, ht, hwt⟩ := open_txs h3
  obtain ⟨ve, le, e4, hv4⟩ := open_evs h4
  simp [Value.cells] at e0 d1 d2 e3 e4
  exact ⟨v, vt, ve, ⟨l, n1, n2, lt, le⟩, by rw [e0, d1, d2, e3, e4], ⟨hl, ht, hv4⟩, hw, hwt⟩

end
end Go.Proofs.YtmecbppblbmchaaGreatDoor

/- The hour of a row's last version: the program's LastAt. -/
namespace Go.Proofs.YtmecbppblbmchaaGreatDoor
open Go.ChangeShapes Go.WideShapes Go.ChangeAt Go.RowKit Go.Sort Go.Maps
set_option linter.unusedVariables false
set_option maxRecDepth 100000
attribute [local go_sem ↓] Go.wp_at_zero Go.wp_at_succ

theorem byKey_last {lo hi : Nat} {w : World} {l : List Ch} {f : Int → Int → Option Value} (hs : storeOk l) (h : ByKey lo hi w l l.length f) (t r : Int) :
    ∃ (L : List Vr) (a : Option Addr) (c : Nat), (f t r).getD (.slice none 0 0) = .slice a L.length c ∧ VersAt lo hi w (.slice a L.length c) L ∧ ∀ k, IsUntil L 1000000 k → IsLastAt l t r (rdV L k).1 := by
  rcases h t r with ⟨h1, h2⟩ | ⟨i, h1, h2, h3, a, c, h4, h5⟩
  · refine ⟨[], none, 0, by rw [h1]; rfl, ⟨none, 0, rfl, Nat.zero_le _, fun h => absurd h (Nat.lt_irrefl _)⟩, fun k hk => ?_⟩
    have := hk.1
    obtain rfl : k = 0 := by simpa using this
    exact .inl ⟨rfl, h2⟩
  · refine ⟨(cAt l i).l, a, c, by rw [h4]; rfl, h5, fun k hk => ?_⟩
    have hv := (hs.2 i h1).2.2
    have hk1 := hk.1
    have hfull : k = (cAt l i).l.length := by
      rcases Nat.lt_or_ge k (cAt l i).l.length with hlt | hge
      · have h6 := hk.2.2 hlt
        have h7 := (hv.2.2 k hlt).2.1
        omega
      · omega
    subst hfull
    refine .inr ⟨i, h1, h2, fun j hj hk' => by have := keys_one hs (by omega) h1 hk' h2; omega, ?_⟩
    have := hv.1
    simp [rdV, show ¬ (cAt l i).l.length = 0 by omega]

set_option maxHeartbeats 1000000 in
theorem implLastAt_any (v : Value) (l : List Ch) (t r : Int) (w : World) {lo hi : Nat} (hl : ChainsAt lo hi w v l) (hw : WfCh l) (wt : wf t) (wr : wf r) (hn : l.length ≤ 1048576) :
    Calls Tryz.prog 127 #[.agg #[v], .agg #[.int .i64 t, .int .i64 r]] w fun e w' => ∃ x, e = .returned (.int .i64 x) ∧ LAns l t r x ∧ Below w.heap.size w w' := by
  obtain ⟨a, cap, hv⟩ : ∃ a cap, v = .slice a l.length cap := by obtain ⟨a, cap, h1, _⟩ := hl; exact ⟨a, cap, h1⟩
  subst hv
  have hbx : Below w.heap.size w ((w.alloc (Obj.cells #[Value.slice a l.length cap] 32)).alloc (Obj.cells #[.int .i64 t, .int .i64 r] 46)) := ((Below.refl _ _).alloc (Nat.le_refl _) _).alloc (by simp) _
  go_enter Tryz.func127, Tryz.ntmps127
  go_wp2_with fail
  refine (implStoreOk_any _ l _ (hl.stays hbx)).mono ?_
  rintro e w1 ⟨⟨q, rfl, hq⟩, hb1⟩
  have b1 := hbx.trans (hb1.mono hbx.size)
  have p0 : w1.cell? ⟨w.heap.size, 0, none⟩ = some (.slice a l.length cap) := cell_stays hb1 (by simp [go_sem])
  have p1 : w1.cell? ⟨w.heap.size + 1, 0, none⟩ = some (.int .i64 t) := cell_stays hb1 (by simp [go_sem])
  have p2 : w1.cell? ⟨w.heap.size + 1, 1, none⟩ = some (.int .i64 r) := cell_stays hb1 (by simp [go_sem])
  clear hb1 hbx
  by_cases hs : storeOk l
  · obtain rfl := hq.2 hs
    clear hq
    by_cases ht : tabB t = true
    · go_wp2_with (first | (go_at_call 118; refine (isTable_any _ _).mono ?_; rintro e w2 ⟨rfl, rfl⟩))
      have z2 : w.heap.size + 1 < w2.heap.size := cell_lt p1
      have hfld := field_at
      have hS2 : Boxes w a l.length cap t r w2 := ⟨b1, z2, p0, p1, p2⟩
      go_region_held3 (fun x => Below w.heap.size w x ∧ w.heap.size + 1 < x.heap.size ∧ x.cell? ⟨w.heap.size, 0, none⟩ = some (.slice a l.length cap) ∧ x.cell? ⟨w.heap.size + 1, 0, none⟩ = some (.int .i64 t) ∧ x.cell? ⟨w.heap.size + 1, 1, none⟩ = some (.int .i64 r))
        (first | assumption | exact hS6 | exact hS5 | exact hS2.kept (Below.refl _ _).drew)
        (first | (go_at_call 120; refine (chainsByKey_any _ l _ (hl.stays b1.drew) hw hn).mono ?_; rintro e w5 ⟨bm, D, f, rfl, hown, hat, hby, hbm, hb5⟩; have hlk := look_vers hown hat wt wr; obtain ⟨L, la, lc, hL, hvL, hrd⟩ := byKey_last hs hby t r; rw [hL] at hlk; have hvL5 := hvL.stays hb5; have hS5 : Boxes w a l.length cap t r w5 := (hS2.kept (Below.refl _ _).drew).kept hb5) | (go_at_call 119; refine (verAt_any _ L _ _ hvL5).mono ?_; rintro e w6 ⟨k, rfl, hk, hb6⟩; have hS6 : Boxes w a l.length cap t r w6 := hS5.kept hb6))
      all_goals
        go_wp2
        go_ret
        exact ⟨_, rfl, .inr ⟨⟨hs, ht⟩, hrd k hk⟩, hS6.1⟩
    · have ht' : tabB t = false := by simpa using ht
      go_wp2_with (first | (go_at_call 118; refine (isTable_any _ _).mono ?_; rintro e w2 ⟨rfl, rfl⟩))
      go_ret
      exact ⟨_, rfl, .inl ⟨fun h => ht h.2, rfl⟩, b1⟩
  · obtain rfl := says_false hq hs
    clear hq
    go_wp2
    go_ret
    exact ⟨_, rfl, .inl ⟨fun h => hs h.1, rfl⟩, b1⟩

end Go.Proofs.YtmecbppblbmchaaGreatDoor

/- Has somebody else been first? spec.l2lost, impl.outrun, both Lost functions. -/
namespace Go.Proofs.YtmecbppblbmchaaGreatDoor
open Go.ChangeShapes Go.WideShapes Go.ChangeAt Go.RowKit Go.Sort
set_option linter.unusedVariables false
set_option maxRecDepth 100000
attribute [local go_sem ↓] Go.wp_at_zero Go.wp_at_succ

theorem isLastAt_ex (l : List Ch) (t r : Int) : ∃ x, IsLastAt l t r x := by
  have key : ∀ n, n ≤ l.length → (∀ j, j < n → ¬ km l j t r) ∨ ∃ x, IsLastAt l t r x := fun n => by
    induction n with
    | zero => exact fun _ => .inl fun j hj => absurd hj (Nat.not_lt_zero _)
    | succ n ih =>
      intro hn
      rcases ih (by omega) with h | h
      · by_cases e : km l n t r
        · exact .inr ⟨_, .inr ⟨n, by omega, e, h, rfl⟩⟩
        · refine .inl fun j hj => ?_
          by_cases e' : j = n
          · exact e' ▸ e
          · exact h j (by omega)
      · exact .inr h
  rcases key _ (Nat.le_refl _) with h | h
  · exact ⟨0, .inl ⟨rfl, h⟩⟩
  · exact h

theorem l1last_isM (v : Value) (l : List Ch) (t r x : Int) (w : World) {lo hi : Nat} (hl : ChainsAt lo hi w v l) (hs : storeOk l) (hx : IsLastAt l t r x) :
    Calls Tryz.prog 59 #[.agg #[v], .agg #[.int .i64 t, .int .i64 r]] w fun e w' => e = .returned (.int .i64 x) ∧ Below w.heap.size w w' := by
  refine (l1last_any v l t r w hl hs).mono ?_
  rintro e w' ⟨y, rfl, hy, hb⟩
  obtain rfl := hx.one hy
  exact ⟨rfl, hb⟩
theorem implLastAt_is (v : Value) (l : List Ch) (t r x : Int) (w : World) {lo hi : Nat} (hl : ChainsAt lo hi w v l) (hs : storeOk l) (ht : tabB t = true) (hw : WfCh l) (wt : wf t) (wr : wf r) (hx : IsLastAt l t r x) :
    Calls Tryz.prog 127 #[.agg #[v], .agg #[.int .i64 t, .int .i64 r]] w fun e w' => e = .returned (.int .i64 x) ∧ Below w.heap.size w w' := by
  refine (implLastAt_any v l t r w hl hw wt wr (by have := hs.1; omega)).mono ?_
  rintro e w' ⟨y, rfl, hy, hb⟩
  rcases hy with ⟨h1, _⟩ | ⟨_, hy⟩
  · exact absurd ⟨hs, ht⟩ h1
  · obtain rfl := hx.one hy
    exact ⟨rfl, hb⟩

/-- The j-th row of the list has a version later than s. -/
def late (l : List Ch) (w : List Rw) (s : Int) (j : Nat) : Prop := ∃ x, IsLastAt l (rAt w j).t (rAt w j).r x ∧ s < x
def lostP (l : List Ch) (w : List Rw) (s : Int) : Prop := ∃ j, j < w.length ∧ late l w s j

set_option maxHeartbeats 1000000 in
theorem l2lost_any (b : Nat) (a1 : Option Addr) (cap1 : Nat) (vt ve : Value) (m : Md) (k0 : Nat) (w : World) {lo hi : Nat} (hbox : MBox w b (.slice a1 m.s.length cap1) m.c m.n vt ve) (hS : ChainsAt lo hi w (.slice a1 m.s.length cap1) m.s) (h : TxsAt lo hi w vt m.x) (ho : storeOk m.s) (hk0 : k0 < m.x.length) (hn60 : (tAt m.x k0).w.length ≤ 60) :
    Calls Tryz.prog 86 #[.pointer (some ⟨b, 0, none⟩), .int .i64 k0] w fun e w' => Says e (lostP m.s (tAt m.x k0).w (tAt m.x k0).s) ∧ Below w.heap.size w w' := by
  obtain ⟨a, cap, rfl, hm, hc⟩ := h
  unfold maxLen at hm
  obtain ⟨q0, q1, q2, q3, q4⟩ := id hbox
  obtain ⟨bt, off, rfl, _, _, hcc⟩ := hc (by omega)
  obtain ⟨c0, c1, ca, cb, c2, c3⟩ := hcc k0 hk0
  clear hcc hc
  have i0 : (0 : Int) ≤ (k0 : Int) := by omega
  have i1 : (k0 : Int) < (m.x.length : Int) := by omega
  have hA : Below w.heap.size w (w.alloc (Obj.cells #[Value.int IntKind.i64 (tAt m.x k0).i, Value.int IntKind.i64 (tAt m.x k0).s, Value.slice ca (tAt m.x k0).w.length cb] 97)) := (Below.refl _ _).alloc (Nat.le_refl _) _
  obtain ⟨a5, cap5, e5, hm5, hc5⟩ := c3.stays hA
  injection e5 with e51 e52 e53
  subst e51 e53
  clear e52 c3
  go_enter Tryz.func86, Tryz.ntmps86
  go_wp2
  generalize hW : w.alloc (Obj.cells #[Value.int IntKind.i64 (tAt m.x k0).i, Value.int IntKind.i64 (tAt m.x k0).s, Value.slice ca (tAt m.x k0).w.length cb] 97) = W at *
  have x1 : W.cell? ⟨w.heap.size, 1, none⟩ = some (.int .i64 (tAt m.x k0).s) := by rw [← hW]; simp
  have x2 : W.cell? ⟨w.heap.size, 2, none⟩ = some (.slice ca (tAt m.x k0).w.length cb) := by rw [← hW]; simp
  have z0 := cell_stays hA q0
  have hS' := hS.stays hA
  clear hW c0 c1 c2 q0 q1 q2 q3 q4
  go_loopw [6] (fun i wr => ∃ k : Nat, k ≤ (tAt m.x k0).w.length ∧ i = .int .i64 k ∧ Below W.heap.size W wr ∧ ∀ j, j < k → ¬ late m.s (tAt m.x k0).w (tAt m.x k0).s j) (fun i _ => (tAt m.x k0).w.length - (intOf i).toNat)
  case atStart => exact ⟨0, Nat.zero_le _, rfl, Below.refl _ _, fun j hj => absurd hj (Nat.not_lt_zero _)⟩
  case round =>
    rename World => wo
    obtain ⟨k, hk, rfl, hb, hs⟩ := hrel
    have y1 := cell_stays hb x1
    have y2 := cell_stays hb x2
    have hB := hA.trans (hb.mono hA.size)
    by_cases hlt : k < (tAt m.x k0).w.length
    · obtain ⟨b2, off2, rfl, _, _, hcc⟩ := hc5 (by omega)
      obtain ⟨d0, d1, _⟩ := hcc k hlt
      clear hcc hc5
      have k1 := cell_regrown y1
      have k2 := cell_regrown y2
      have k3 := cell_regrown (cell_stays hb z0)
      have k4 := cell_regrown (cell_stays hb d0)
      have k5 := cell_regrown (cell_stays hb d1)
      have j0 : (0 : Int) ≤ (k : Int) := by omega
      have j1 : (k : Int) < ((tAt m.x k0).w.length : Int) := by omega
      obtain ⟨x, hx⟩ := isLastAt_ex m.s (rAt (tAt m.x k0).w k).t (rAt (tAt m.x k0).w k).r
      have hSw := hS'.stays hb
      by_cases hle : (tAt m.x k0).s < x
      · go_wp2_with fail
        refine wp_region_quiet_below (by kernel_rfl) (by kernel_rfl) ?_
        repeat (go_big_quiet_step ((go_at_call 59; exact Calls.regrown_of (l1last_isM _ m.s _ _ x _ (hSw.stays (below_regrown _ _ _)) ho hx))))
        refine wpQuiet_nil ?_
        intro w5 hw5
        obtain ⟨⟨dq, osq⟩, hw6⟩ := hw5
        have hb5 : Below _ _ w5 := hw6 ▸ below_regrown _ dq osq
        clear hw6
        go_wp2
        go_ret
        exact ⟨says_yes ⟨k, hlt, x, hx, hle⟩, hB.trans (hb5.mono hB.size)⟩
      · have hle' : decide ((tAt m.x k0).s < x) = false := by simpa using hle
        go_wp2_with fail
        refine wp_region_quiet_below (by kernel_rfl) (by kernel_rfl) ?_
        repeat (go_big_quiet_step ((go_at_call 59; exact Calls.regrown_of (l1last_isM _ m.s _ _ x _ (hSw.stays (below_regrown _ _ _)) ho hx))))
        refine wpQuiet_nil ?_
        intro w5 hw5
        obtain ⟨⟨dq, osq⟩, hw6⟩ := hw5
        have hb5 : Below _ _ w5 := hw6 ▸ below_regrown _ dq osq
        clear hw6
        have hno : ¬ late m.s (tAt m.x k0).w (tAt m.x k0).s k := fun ⟨y, hy, hy2⟩ => by
          obtain rfl := hx.one hy
          omega
        go_wp2
        go_roundw
        case rel => exact ⟨k + 1, by omega, by go_num, hb.trans (hb5.mono hb.size), upto_succ hs hno⟩
        case measure => simp [intOf]; omega
    · clear hc5
      go_wp2
      go_ret
      exact ⟨says_no fun ⟨j, hj, hl⟩ => hs j (by omega) hl, hB⟩

set_option maxHeartbeats 1000000 in
theorem outrun_any (v : Value) (l : List Ch) (ii ss : Int) (vw : Value) (r : List Rw) (w : World) {lo hi : Nat} (hS : ChainsAt lo hi w v l) (h : RowsAt lo hi w vw r) (ho : storeOk l) (hr : rowsOk r) (hw : WfCh l) (hwr : WfRw r) :
    Calls Tryz.prog 92 #[.agg #[v], .agg #[.int .i64 ii, .int .i64 ss, vw]] w fun e w' => Says e (lostP l r ss) ∧ Below w.heap.size w w' := by
  obtain ⟨a1, cap1, hv1⟩ : ∃ a cap, v = .slice a l.length cap := by obtain ⟨a, cap, h1, _⟩ := hS; exact ⟨a, cap, h1⟩
  subst hv1
  obtain ⟨a, cap, rfl, hm, hc⟩ := h
  unfold maxLen at hm
  have hn60 := hr.1
  have hA : Below w.heap.size w ((w.alloc (Obj.cells #[Value.slice a1 l.length cap1] 32)).alloc (Obj.cells #[Value.int IntKind.i64 ii, Value.int IntKind.i64 ss, Value.slice a r.length cap] 97)) := ((Below.refl _ _).alloc (Nat.le_refl _) _).alloc (by simp) _
  go_enter Tryz.func92, Tryz.ntmps92
  go_wp2
  generalize hW : (w.alloc (Obj.cells #[Value.slice a1 l.length cap1] 32)).alloc (Obj.cells #[Value.int IntKind.i64 ii, Value.int IntKind.i64 ss, Value.slice a r.length cap] 97) = W at *
  have x0 : W.cell? ⟨w.heap.size, 0, none⟩ = some (.slice a1 l.length cap1) := by rw [← hW]; simp
  have x1 : W.cell? ⟨w.heap.size + 1, 1, none⟩ = some (.int .i64 ss) := by rw [← hW]; simp
  have hS' := hS.stays hA
  clear hW
  go_loopw [10] (fun i wr => ∃ k : Nat, k ≤ r.length ∧ i = .int .i64 k ∧ Below W.heap.size W wr ∧ ∀ j, j < k → ¬ late l r ss j) (fun i _ => r.length - (intOf i).toNat)
  case atStart => exact ⟨0, Nat.zero_le _, rfl, Below.refl _ _, fun j hj => absurd hj (Nat.not_lt_zero _)⟩
  case round =>
    rename World => wo
    obtain ⟨k, hk, rfl, hb, hs⟩ := hrel
    have y0 := cell_stays hb x0
    have y1 := cell_stays hb x1
    have hB := hA.trans (hb.mono hA.size)
    by_cases hlt : k < r.length
    · obtain ⟨b2, off2, rfl, _, _, hcc⟩ := hc (by omega)
      obtain ⟨d0, d1, d2⟩ := hcc k hlt
      replace d0 := cell_stays hB d0
      replace d1 := cell_stays hB d1
      replace d2 := cell_stays hB d2
      clear hcc hc
      have j0 : (0 : Int) ≤ (k : Int) := by omega
      have j1 : (k : Int) < (r.length : Int) := by omega
      have hR : Below wo.heap.size wo (wo.alloc (Obj.cells #[Value.int IntKind.i64 (rAt r k).t, Value.int IntKind.i64 (rAt r k).r, Value.int IntKind.i64 (rAt r k).v] 111)) := (Below.refl _ _).alloc (Nat.le_refl _) _
      have k1 := cell_regrown (cell_stays hR y0)
      have k2 := cell_regrown (cell_stays hR y1)
      have k3 := cell_regrown (w := wo.alloc (Obj.cells #[Value.int IntKind.i64 (rAt r k).t, Value.int IntKind.i64 (rAt r k).r, Value.int IntKind.i64 (rAt r k).v] 111)) (a := ⟨wo.heap.size, 0, none⟩) (v := .int .i64 (rAt r k).t) (by simp)
      have k4 := cell_regrown (w := wo.alloc (Obj.cells #[Value.int IntKind.i64 (rAt r k).t, Value.int IntKind.i64 (rAt r k).r, Value.int IntKind.i64 (rAt r k).v] 111)) (a := ⟨wo.heap.size, 1, none⟩) (v := .int .i64 (rAt r k).r) (by simp)
      obtain ⟨x, hx⟩ := isLastAt_ex l (rAt r k).t (rAt r k).r
      have hSw := (hS'.stays hb).stays hR
      have htab := (hr.2 k hlt).1
      have hwk := hwr k hlt
      have hBR := hB.trans (hR.mono hB.size)
      have HT : Hid (tabB (rAt r k).t = true) := htab
      clear htab
      by_cases hle : ss < x
      · go_wp2_with fail
        refine wp_region_quiet_below (by kernel_rfl) (by kernel_rfl) ?_
        repeat (go_big_quiet_step ((go_at_call 127; exact Calls.regrown_of (implLastAt_is _ l _ _ x _ (hSw.stays (below_regrown _ _ _)) ho HT.out hw hwk.1 hwk.2 hx))))
        refine wpQuiet_nil ?_
        intro w5 hw5
        obtain ⟨⟨dq, osq⟩, hw6⟩ := hw5
        have hb5 : Below _ _ w5 := hw6 ▸ below_regrown _ dq osq
        clear hw6
        go_wp2
        go_ret
        exact ⟨says_yes ⟨k, hlt, x, hx, hle⟩, hBR.trans (hb5.mono hBR.size)⟩
      · have hle' : decide (ss < x) = false := by simpa using hle
        go_wp2_with fail
        refine wp_region_quiet_below (by kernel_rfl) (by kernel_rfl) ?_
        repeat (go_big_quiet_step ((go_at_call 127; exact Calls.regrown_of (implLastAt_is _ l _ _ x _ (hSw.stays (below_regrown _ _ _)) ho HT.out hw hwk.1 hwk.2 hx))))
        refine wpQuiet_nil ?_
        intro w5 hw5
        obtain ⟨⟨dq, osq⟩, hw6⟩ := hw5
        have hb5 : Below _ _ w5 := hw6 ▸ below_regrown _ dq osq
        clear hw6
        have hno : ¬ late l r ss k := fun ⟨y, hy, hy2⟩ => by
          obtain rfl := hx.one hy
          omega
        have hbR := hb.trans (hR.mono hb.size)
        go_wp2
        go_roundw
        case rel => exact ⟨k + 1, by omega, by go_num, hbR.trans (hb5.mono hbR.size), upto_succ hs hno⟩
        case measure => simp [intOf]; omega
    · clear hc
      go_wp2
      go_ret
      exact ⟨says_no fun ⟨j, hj, hl⟩ => hs j (by omega) hl, hB⟩

end Go.Proofs.YtmecbppblbmchaaGreatDoor
