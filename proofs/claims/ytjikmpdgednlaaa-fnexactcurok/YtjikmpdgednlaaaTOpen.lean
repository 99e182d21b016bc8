/- From the reading of an argument to the plain data: numbers, texts, nodes, procedures, a set. -/
import Derived.Test.YtjikmpdgednlaaaOpen0
import Derived.Test.YtjikmpdgednlaaaTSize
import Derived.ChangeMaps5
namespace Go.Proofs.Ytjikmpdgednlaaa
open Go.ChangeShapes Go.WideShapes Go.ChangeAt Go.RowKit Go.Deep Go.Joins
set_option linter.unusedVariables false
set_option maxRecDepth 100000

section
variable {H : Type} {enc : TypeId × Value → H} {W : World}

theorem open_ints {fuel : Nat} {cs : List Value} {x : DataW H × List MemPlace} (h : DataW.trod enc Try.prog W 0 (fun _ => true) true fuel 62 cs = some x) :
    ∃ v l, cs = [v] ∧ IntsAt 0 W.heap.size W v l ∧ ∀ j, j < l.length → wf (iAt l j) := by
  have hce : Try.prog.cellsOf 3 = 1 := by kernel_rfl
  rcases open_slice Try.underlying62 h with ⟨rfl, _⟩ | ⟨a, len, cap, m, n, D, Pl, rfl, _, hl, hm, hmm, _, hx⟩
  · exact ⟨_, [], rfl, ⟨none, 0, rfl, Nat.zero_le _, fun h => absurd h (Nat.lt_irrefl _)⟩, fun i hi => absurd hi (Nat.not_lt_zero _)⟩
  · obtain rfl : m = cap := by simpa using hmm
    obtain ⟨f, hf⟩ := choose_lt (α := Int) (n := len) (p := fun i q => W.cell? (a.add i) = some (.int .i64 q) ∧ wf q) (fun i hi => by
      obtain ⟨cs', h1, h2⟩ := hx i (by omega)
      rw [hce] at h1
      obtain ⟨_, hlen, hcell⟩ := World.cells?_some h1
      obtain ⟨k0, e0, _, w0⟩ := DataW.trod_int Try.underlying3 h2
      subst e0
      have e1 := hcell 0 (by omega)
      rw [add_add] at e1
      exact ⟨k0, by simpa using e1, w0⟩)
    refine ⟨.slice (some a) len m, (List.range len).map f, rfl, ⟨some a, m, by simp, by simp; omega, fun hp => ?_⟩, fun i hi => by
      have hi' : i < len := by simpa using hi
      have e : iAt ((List.range len).map f) i = f i := by simp [iAt, hi']
      rw [e]; exact (hf i hi').2⟩
    have hlen : 0 < len := by simpa using hp
    have ha := spot_plain (hf 0 (by omega)).1
    refine ⟨a.block, a.off, by rw [← ha], Nat.zero_le _, cell_lt (hf 0 (by omega)).1 |> fun h => by simpa [Addr.add] using h, fun i hi => ?_⟩
    have hi' : i < len := by simpa using hi
    obtain ⟨g0, _⟩ := hf i hi'
    have e : iAt ((List.range len).map f) i = f i := by simp [iAt, hi']
    rw [add_plain g0] at g0
    rw [e]
    exact g0

theorem open_texts {fuel : Nat} {cs : List Value} {x : DataW H × List MemPlace} (h : DataW.trod enc Try.prog W 0 (fun _ => true) true fuel 66 cs = some x) :
    ∃ v l, cs = [v] ∧ TextsAt 0 W.heap.size W v l ∧ ∀ j, j < l.length → (sAt l j).size ≤ maxLen := by
  have hce : Try.prog.cellsOf 9 = 1 := by kernel_rfl
  rcases open_slice Try.underlying66 h with ⟨rfl, _⟩ | ⟨a, len, cap, m, n, D, Pl, rfl, _, hl, hm, hmm, _, hx⟩
  · exact ⟨_, [], rfl, ⟨none, 0, rfl, Nat.zero_le _, fun h => absurd h (Nat.lt_irrefl _)⟩, fun i hi => absurd hi (Nat.not_lt_zero _)⟩
  · obtain rfl : m = cap := by simpa using hmm
    have inh : Inhabited ByteArray := ⟨ByteArray.empty⟩
    obtain ⟨f, hf⟩ := choose_lt (α := ByteArray) (n := len) (p := fun i q => W.cell? (a.add i) = some (.string q) ∧ q.size ≤ maxLen) (fun i hi => by
      obtain ⟨cs', h1, h2⟩ := hx i (by omega)
      rw [hce] at h1
      obtain ⟨_, hlen, hcell⟩ := World.cells?_some h1
      obtain ⟨k0, e0, _, w0⟩ := DataW.trod_string Try.underlying9 h2
      subst e0
      have e1 := hcell 0 (by omega)
      rw [add_add] at e1
      exact ⟨k0, by simpa using e1, w0⟩)
    refine ⟨.slice (some a) len m, (List.range len).map f, rfl, ⟨some a, m, by simp, by simp; omega, fun hp => ?_⟩, fun i hi => by
      have hi' : i < len := by simpa using hi
      have e : sAt ((List.range len).map f) i = f i := by simp [sAt, hi']
      rw [e]; exact (hf i hi').2⟩
    have hlen : 0 < len := by simpa using hp
    have ha := spot_plain (hf 0 (by omega)).1
    refine ⟨a.block, a.off, by rw [← ha], Nat.zero_le _, cell_lt (hf 0 (by omega)).1 |> fun h => by simpa [Addr.add] using h, fun i hi => ?_⟩
    have hi' : i < len := by simpa using hi
    obtain ⟨g0, _⟩ := hf i hi'
    have e : sAt ((List.range len).map f) i = f i := by simp [sAt, hi']
    rw [add_plain g0] at g0
    rw [e]
    exact g0

theorem open_nodes {fuel : Nat} {cs : List Value} {x : DataW H × List MemPlace} (h : DataW.trod enc Try.prog W 0 (fun _ => true) true fuel 22 cs = some x) :
    ∃ v l, cs = [v] ∧ NodesAt 0 W.heap.size W v l ∧ WfN l := by
  have hce : Try.prog.cellsOf 64 = 4 := by kernel_rfl
  have hci : Try.prog.cellsOf 3 = 1 := by kernel_rfl
  have hcs : Try.prog.cellsOf 9 = 1 := by kernel_rfl
  have hcl : Try.prog.cellsOf 62 = 1 := by kernel_rfl
  rcases open_slice Try.underlying22 h with ⟨rfl, _⟩ | ⟨a, len, cap, m, n, D, Pl, rfl, _, hl, hm, hmm, _, hx⟩
  · exact ⟨_, [], rfl, ⟨none, 0, rfl, Nat.zero_le _, fun h => absurd h (Nat.lt_irrefl _)⟩, fun i hi => absurd hi (Nat.not_lt_zero _)⟩
  · obtain rfl : m = cap := by simpa using hmm
    have inh : Inhabited Nd := ⟨nd0⟩
    obtain ⟨f, hf⟩ := choose_lt (α := Nd) (n := len) (p := fun i q => W.cell? (a.add (i * 4)) = some (.int .i64 q.k) ∧ W.cell? (a.add (i * 4 + 1)) = some (.string q.s) ∧ W.cell? (a.add (i * 4 + 2)) = some (.int .i64 q.n) ∧
        ∃ a' c', W.cell? (a.add (i * 4 + 3)) = some (.slice a' q.kids.length c') ∧ IntsAt 0 W.heap.size W (.slice a' q.kids.length c') q.kids ∧ q.s.size ≤ maxLen ∧ wf q.k ∧ wf q.n ∧ ∀ j, j < q.kids.length → wf (iAt q.kids j)) (fun i hi => by
      obtain ⟨cs', h1, h2⟩ := hx i (by omega)
      rw [hce] at h1
      obtain ⟨_, hlen, hcell⟩ := World.cells?_some h1
      obtain ⟨y0, y1, y2, y3, n, _, _, h0, h1, h2, h3⟩ := trod_struct4 Try.underlying64 h2
      match cs', hlen with
      | [v0, v1, v2, v3], _ =>
        simp only [hci, hcs, hcl] at h0 h1 h2 h3
        obtain ⟨k0, e0, _, w0⟩ := DataW.trod_int Try.underlying3 h0
        obtain ⟨k1, e1, _, w1⟩ := DataW.trod_string Try.underlying9 h1
        obtain ⟨k2, e2, _, w2⟩ := DataW.trod_int Try.underlying3 h2
        obtain ⟨v', l', e3, hv, w3⟩ := open_ints h3
        simp at e0 e1 e2 e3
        obtain ⟨a', c', ev⟩ : ∃ a c, v' = .slice a l'.length c := by obtain ⟨a, c, h1, _⟩ := hv; exact ⟨a, c, h1⟩
        subst ev
        have f0 := hcell 0 (by omega)
        have f1 := hcell 1 (by omega)
        have f2 := hcell 2 (by omega)
        have f3 := hcell 3 (by omega)
        rw [add_add] at f0 f1 f2 f3
        refine ⟨⟨k0, k1, k2, l'⟩, ?_, ?_, ?_, a', c', ?_, hv, w1, w0, w2, w3⟩
        · simpa [e0] using f0
        · simpa [e1] using f1
        · simpa [e2] using f2
        · simpa [e3] using f3)
    refine ⟨.slice (some a) len m, (List.range len).map f, rfl, ⟨some a, m, by simp, by simp; omega, fun hp => ?_⟩, fun i hi => by
      have hi' : i < len := by simpa using hi
      have e : ndAt ((List.range len).map f) i = f i := by simp [ndAt, hi']
      obtain ⟨_, _, _, _, _, _, _, g⟩ := hf i hi'
      rw [e]; exact g⟩
    have hlen : 0 < len := by simpa using hp
    have ha := spot_plain (by simpa using (hf 0 (by omega)).1)
    refine ⟨a.block, a.off, by rw [← ha], Nat.zero_le _, cell_lt (hf 0 (by omega)).1 |> fun h => by simpa [Addr.add] using h, fun i hi => ?_⟩
    have hi' : i < len := by simpa using hi
    obtain ⟨g0, g1, g2, a', c', g3, g4, _⟩ := hf i hi'
    have e : ndAt ((List.range len).map f) i = f i := by simp [ndAt, hi']
    rw [add_plain g0] at g0
    rw [add_plain g1] at g1
    rw [add_plain g2] at g2
    rw [add_plain g3] at g3
    rw [e]
    exact ⟨g0, by simpa [Nat.add_assoc] using g1, by simpa [Nat.add_assoc] using g2, a', c', by simpa [Nat.add_assoc] using g3, g4⟩

theorem open_procs {fuel : Nat} {cs : List Value} {x : DataW H × List MemPlace} (h : DataW.trod enc Try.prog W 0 (fun _ => true) true fuel 23 cs = some x) :
    ∃ v l, cs = [v] ∧ ProcsAt 0 W.heap.size W v l ∧ WfP l := by
  have hce : Try.prog.cellsOf 68 = 3 := by kernel_rfl
  have hci : Try.prog.cellsOf 3 = 1 := by kernel_rfl
  have hcs : Try.prog.cellsOf 9 = 1 := by kernel_rfl
  have hcl : Try.prog.cellsOf 66 = 1 := by kernel_rfl
  rcases open_slice Try.underlying23 h with ⟨rfl, _⟩ | ⟨a, len, cap, m, n, D, Pl, rfl, _, hl, hm, hmm, _, hx⟩
  · exact ⟨_, [], rfl, ⟨none, 0, rfl, Nat.zero_le _, fun h => absurd h (Nat.lt_irrefl _)⟩, fun i hi => absurd hi (Nat.not_lt_zero _)⟩
  · obtain rfl : m = cap := by simpa using hmm
    have inh : Inhabited Pr := ⟨pr0⟩
    obtain ⟨f, hf⟩ := choose_lt (α := Pr) (n := len) (p := fun i q => W.cell? (a.add (i * 3)) = some (.string q.name) ∧ W.cell? (a.add (i * 3 + 2)) = some (.int .i64 q.body) ∧
        ∃ a' c', W.cell? (a.add (i * 3 + 1)) = some (.slice a' q.ps.length c') ∧ TextsAt 0 W.heap.size W (.slice a' q.ps.length c') q.ps ∧ q.name.size ≤ maxLen ∧ wf q.body ∧ ∀ j, j < q.ps.length → (sAt q.ps j).size ≤ maxLen) (fun i hi => by
      obtain ⟨cs', h1, h2⟩ := hx i (by omega)
      rw [hce] at h1
      obtain ⟨_, hlen, hcell⟩ := World.cells?_some h1
      obtain ⟨y0, y1, y2, n, _, _, h0, h1, h2⟩ := trod_struct3 Try.underlying68 h2
      match cs', hlen with
      | [v0, v1, v2], _ =>
        simp only [hci, hcs, hcl] at h0 h1 h2
        obtain ⟨k0, e0, _, w0⟩ := DataW.trod_string Try.underlying9 h0
        obtain ⟨v', l', e1, hv, w1⟩ := open_texts h1
        obtain ⟨k2, e2, _, w2⟩ := DataW.trod_int Try.underlying3 h2
        simp at e0 e1 e2
        obtain ⟨a', c', ev⟩ : ∃ a c, v' = .slice a l'.length c := by obtain ⟨a, c, h1, _⟩ := hv; exact ⟨a, c, h1⟩
        subst ev
        have f0 := hcell 0 (by omega)
        have f1 := hcell 1 (by omega)
        have f2 := hcell 2 (by omega)
        rw [add_add] at f0 f1 f2
        refine ⟨⟨k0, l', k2⟩, ?_, ?_, a', c', ?_, hv, w0, w2, w1⟩
        · simpa [e0] using f0
        · simpa [e2] using f2
        · simpa [e1] using f1)
    refine ⟨.slice (some a) len m, (List.range len).map f, rfl, ⟨some a, m, by simp, by simp; omega, fun hp => ?_⟩, fun i hi => by
      have hi' : i < len := by simpa using hi
      have e : prAt ((List.range len).map f) i = f i := by simp [prAt, hi']
      obtain ⟨_, _, _, _, _, _, g⟩ := hf i hi'
      rw [e]; exact g⟩
    have hlen : 0 < len := by simpa using hp
    have ha := spot_plain (by simpa using (hf 0 (by omega)).1)
    refine ⟨a.block, a.off, by rw [← ha], Nat.zero_le _, cell_lt (hf 0 (by omega)).1 |> fun h => by simpa [Addr.add] using h, fun i hi => ?_⟩
    have hi' : i < len := by simpa using hi
    obtain ⟨g0, g2, a', c', g1, g4, _⟩ := hf i hi'
    have e : prAt ((List.range len).map f) i = f i := by simp [prAt, hi']
    rw [add_plain g0] at g0
    rw [add_plain g1] at g1
    rw [add_plain g2] at g2
    rw [e]
    exact ⟨g0, ⟨a', c', by simpa [Nat.add_assoc] using g1, g4⟩, by simpa [Nat.add_assoc] using g2⟩

theorem open_set {r : Reach} {b0 : Nat} {v0 : Value} {d : DataW H} {p : List MemPlace} (hv : Value.okWide Try.prog W r b0 25 v0) (h : DataW.Trod enc Try.prog W 0 (fun _ => true) true 25 v0 d p) :
    ∃ v u l q, v0 = .agg #[v, u] ∧ SetAt 0 W.heap.size W v u l q ∧ WfN l ∧ WfP q := by
  obtain ⟨cs, rfl, hsz⟩ := okWide_struct Try.underlying25 hv
  have hc : Try.prog.cellsOf 25 = 2 := by kernel_rfl
  have hcl : Try.prog.cellsOf 22 = 1 := by kernel_rfl
  have hcp : Try.prog.cellsOf 23 = 1 := by kernel_rfl
  rw [hc] at hsz
  obtain ⟨fuel, hf⟩ := h
  obtain ⟨y0, y1, n, _, _, h0, h1⟩ := trod_struct2 Try.underlying25 hf
  obtain ⟨c, e, rfl⟩ : ∃ c e, cs = #[c, e] := by
    match cs, hsz with
    | ⟨[c, e]⟩, _ => exact ⟨c, e, rfl⟩
  simp only [hcl, hcp] at h0 h1
  obtain ⟨v, l, e0, hl, hw⟩ := open_nodes h0
  obtain ⟨u, q, e1, hq, hw'⟩ := open_procs h1
  simp [Value.cells] at e0 e1
  exact ⟨v, u, l, q, by rw [e0, e1], ⟨hl, hq⟩, hw, hw'⟩

end
end Go.Proofs.Ytjikmpdgednlaaa
