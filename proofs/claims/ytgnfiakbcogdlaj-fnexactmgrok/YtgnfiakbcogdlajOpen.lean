/- From the reading of an argument to the plain data: versions, chains, a store, a key. -/
import Derived.Test.YtgnfiakbcogdlajRows
import Derived.Test.YtgnfiakbcogdlajOpen0
import Derived.Deep.SlicePairs
import Derived.Lib.SmallJoins
namespace Go.Proofs.Ytgnfiakbcogdlaj
open Go.ChangeShapes Go.WideShapes Go.ChangeAt Go.RowKit Go.Deep Go.Joins
set_option linter.unusedVariables false
set_option maxRecDepth 100000

section
variable {H : Type} {enc : TypeId × Value → H} {W : World}

theorem open_vers {fuel : Nat} {cs : List Value} {x : DataW H × List MemPlace} (h : DataW.trod enc Try.prog W 0 (fun _ => true) true fuel 111 cs = some x) :
    ∃ a n cap l, cs = [.slice a n cap] ∧ n = l.length ∧ VersAt 0 W.heap.size W (.slice a n cap) l := by
  rcases open_slice_pairs Try.underlying111 Try.underlying141 (by kernel_rfl) rfl rfl (by kernel_rfl) (by kernel_rfl) h with ⟨rfl, _⟩ | ⟨a, len, cap, m, n, V0, V1, D0, D1, P0, P1, rfl, _, hl, hm, hmm, _, hx⟩
  · exact ⟨none, 0, 0, [], rfl, rfl, none, 0, rfl, Nat.zero_le _, fun h => absurd h (Nat.lt_irrefl _)⟩
  · obtain rfl : m = cap := by simpa using hmm
    obtain ⟨f, hf⟩ := choose_lt (α := Vr) (n := len) (p := fun i q => V0 i = .int .i64 q.1 ∧ V1 i = .int .i64 q.2) (fun i hi => by
      obtain ⟨_, _, h0, h1⟩ := hx i (by omega)
      obtain ⟨n0, e0, _, _⟩ := DataW.trod_int Try.underlying3 h0
      obtain ⟨n1, e1, _, _⟩ := DataW.trod_int Try.underlying3 h1
      exact ⟨(n0, n1), by simpa using e0, by simpa using e1⟩)
    refine ⟨some a, len, m, (List.range len).map f, rfl, by simp, some a, m, by simp, by simp; omega, fun hp => ?_⟩
    have hlen : 0 < len := by simpa using hp
    have ha := spot_plain (by simpa using (hx 0 (by omega)).1)
    refine ⟨a.block, a.off, by rw [← ha], Nat.zero_le _, cell_lt (hx 0 (by omega)).1 |> fun h => by simpa [Addr.add] using h, fun i hi => ?_⟩
    have hi' : i < len := by simpa using hi
    obtain ⟨g0, g1, _, _⟩ := hx i (by omega)
    have e : vAt ((List.range len).map f) i = f i := by simp [vAt, hi']
    rw [add_plain g0, (hf i hi').1] at g0
    rw [add_plain g1, (hf i hi').2] at g1
    rw [e]
    exact ⟨g0, by simpa [Nat.add_assoc] using g1⟩

theorem open_key_cells {fuel : Nat} {cs : List Value} {x : DataW H × List MemPlace} (h : DataW.trod enc Try.prog W 0 (fun _ => true) true fuel 26 cs = some x) :
    ∃ a b : Int, cs = [.int .i64 a, .int .i64 b] ∧ wf a ∧ wf b := by
  obtain ⟨y0, y1, n, _, hlen, h0, h1⟩ := trod_struct2 Try.underlying26 h
  have hc : Try.prog.cellsOf 26 = 2 := by kernel_rfl
  have hi : Try.prog.cellsOf 3 = 1 := by kernel_rfl
  rw [hc] at hlen
  match cs, hlen with
  | [v0, v1], _ =>
    simp only [hi] at h0 h1
    obtain ⟨n0, e0, _, w0⟩ := DataW.trod_int Try.underlying3 h0
    obtain ⟨n1, e1, _, w1⟩ := DataW.trod_int Try.underlying3 h1
    simp at e0 e1
    exact ⟨n0, n1, by rw [e0, e1], w0, w1⟩

theorem open_chains {fuel : Nat} {cs : List Value} {x : DataW H × List MemPlace} (h : DataW.trod enc Try.prog W 0 (fun _ => true) true fuel 22 cs = some x) :
    ∃ v l, cs = [v] ∧ ChainsAt 0 W.heap.size W v l ∧ WfCh l := by
  have hce : Try.prog.cellsOf 113 = 3 := by kernel_rfl
  have hck : Try.prog.cellsOf 26 = 2 := by kernel_rfl
  have hcl : Try.prog.cellsOf 111 = 1 := by kernel_rfl
  rcases open_slice Try.underlying22 h with ⟨rfl, _⟩ | ⟨a, len, cap, m, n, D, Pl, rfl, _, hl, hm, hmm, _, hx⟩
  · exact ⟨_, [], rfl, ⟨none, 0, rfl, Nat.zero_le _, fun h => absurd h (Nat.lt_irrefl _)⟩, fun i hi => absurd hi (Nat.not_lt_zero _)⟩
  · obtain rfl : m = cap := by simpa using hmm
    have inh : Inhabited Ch := ⟨ch0⟩
    obtain ⟨f, hf⟩ := choose_lt (α := Ch) (n := len) (p := fun i q => W.cell? (a.add (i * 3)) = some (.int .i64 q.t) ∧ W.cell? (a.add (i * 3 + 1)) = some (.int .i64 q.r) ∧
        ∃ a' c', W.cell? (a.add (i * 3 + 2)) = some (.slice a' q.l.length c') ∧ VersAt 0 W.heap.size W (.slice a' q.l.length c') q.l ∧ wf q.t ∧ wf q.r) (fun i hi => by
      obtain ⟨cs', h1, h2⟩ := hx i (by omega)
      rw [hce] at h1
      obtain ⟨_, hlen, hcell⟩ := World.cells?_some h1
      obtain ⟨y0, y1, n, _, _, h0, h1⟩ := trod_struct2 Try.underlying113 h2
      match cs', hlen with
      | [v0, v1, v2], _ =>
        simp only [hck, hcl] at h0 h1
        obtain ⟨k0, k1, ek, wk0, wk1⟩ := open_key_cells h0
        obtain ⟨a', n', c', l', el, rfl, hv⟩ := open_vers h1
        simp at ek el
        have e0 := hcell 0 (by omega)
        have e1 := hcell 1 (by omega)
        have e2 := hcell 2 (by omega)
        rw [add_add] at e0 e1 e2
        refine ⟨⟨k0, k1, l'⟩, ?_, ?_, a', c', ?_, hv, wk0, wk1⟩
        · simpa [ek.1] using e0
        · simpa [ek.2] using e1
        · simpa [el] using e2)
    refine ⟨.slice (some a) len m, (List.range len).map f, rfl, ⟨some a, m, by simp, by simp; omega, fun hp => ?_⟩, fun i hi => by
      have hi' : i < len := by simpa using hi
      have e : cAt ((List.range len).map f) i = f i := by simp [cAt, hi']
      obtain ⟨_, _, _, _, _, _, g⟩ := hf i hi'
      rw [e]; exact g⟩
    have hlen : 0 < len := by simpa using hp
    have ha := spot_plain (by simpa using (hf 0 (by omega)).1)
    refine ⟨a.block, a.off, by rw [← ha], Nat.zero_le _, cell_lt (hf 0 (by omega)).1 |> fun h => by simpa [Addr.add] using h, fun i hi => ?_⟩
    have hi' : i < len := by simpa using hi
    obtain ⟨g0, g1, a', c', g2, g3, _⟩ := hf i hi'
    have e : cAt ((List.range len).map f) i = f i := by simp [cAt, hi']
    rw [add_plain g0] at g0
    rw [add_plain g1] at g1
    rw [add_plain g2] at g2
    rw [e]
    exact ⟨g0, by simpa [Nat.add_assoc] using g1, a', c', by simpa [Nat.add_assoc] using g2, g3⟩

theorem open_store {r : Reach} {b0 : Nat} {v0 : Value} {d : DataW H} {p : List MemPlace} (hv : Value.okWide Try.prog W r b0 24 v0) (h : DataW.Trod enc Try.prog W 0 (fun _ => true) true 24 v0 d p) :
    ∃ v l, v0 = .agg #[v] ∧ ChainsAt 0 W.heap.size W v l ∧ WfCh l := by
  obtain ⟨cs, rfl, hsz⟩ := okWide_struct Try.underlying24 hv
  have hc : Try.prog.cellsOf 24 = 1 := by kernel_rfl
  have hcl : Try.prog.cellsOf 22 = 1 := by kernel_rfl
  rw [hc] at hsz
  obtain ⟨fuel, hf⟩ := h
  obtain ⟨y0, n, _, _, h0⟩ := trod_struct1 Try.underlying24 hf
  obtain ⟨c, rfl⟩ : ∃ c, cs = #[c] := by
    match cs, hsz with
    | ⟨[c]⟩, _ => exact ⟨c, rfl⟩
  simp only [hcl] at h0
  obtain ⟨v, l, e, hl, hw⟩ := open_chains h0
  simp [Value.cells] at e
  exact ⟨v, l, by rw [e], hl, hw⟩

theorem open_key {r : Reach} {b0 : Nat} {v0 : Value} {d : DataW H} {p : List MemPlace} (hv : Value.okWide Try.prog W r b0 26 v0) (h : DataW.Trod enc Try.prog W 0 (fun _ => true) true 26 v0 d p) :
    ∃ a b : Int, v0 = .agg #[.int .i64 a, .int .i64 b] ∧ wf a ∧ wf b := by
  obtain ⟨c0, c1, y0, y1, m, rfl, _, _, hy0, hy1⟩ := open_agg2 Try.underlying26 (by kernel_rfl) (by kernel_rfl) hv h
  obtain ⟨x, e0, _, w0⟩ := DataW.trod_int Try.underlying3 hy0
  obtain ⟨y, e1, _, w1⟩ := DataW.trod_int Try.underlying3 hy1
  simp at e0 e1
  exact ⟨x, y, by rw [e0, e1], w0, w1⟩

end
end Go.Proofs.Ytgnfiakbcogdlaj
