import Derived.Test.YtmecbppblbmchaaGreatDoorLastV
import Derived.Test.YtmecbppblbmchaaGreatDoorOpen
import Derived.ChangeOld
/- From the reading of an argument to the plain data: rows, transactions, events, the whole. -/
namespace Go.Proofs.YtmecbppblbmchaaGreatDoor
open Go.ChangeShapes Go.WideShapes Go.ChangeAt Go.RowKit Go.Deep Go.Joins
set_option linter.unusedVariables false
set_option maxRecDepth 100000

section
variable {H : Type} {enc : TypeId × Value → H} {W : World}

theorem trod_struct5 {t : TypeId} {f0 f1 f2 f3 f4 : Field} {fuel : Nat} {cs : List Value} {x : DataW H × List MemPlace} (ht : Tryz.prog.underlying t = some (.struct #[f0, f1, f2, f3, f4])) (h : DataW.trod enc Tryz.prog W 0 (fun _ => true) true fuel t cs = some x) :
    ∃ y0 y1 y2 y3 y4 n, cs.length = Tryz.prog.cellsOf t ∧ DataW.trod enc Tryz.prog W 0 (fun _ => true) true n f0.type ((cs.drop f0.offset).take (Tryz.prog.cellsOf f0.type)) = some y0 ∧ DataW.trod enc Tryz.prog W 0 (fun _ => true) true n f1.type ((cs.drop f1.offset).take (Tryz.prog.cellsOf f1.type)) = some y1 ∧
      DataW.trod enc Tryz.prog W 0 (fun _ => true) true n f2.type ((cs.drop f2.offset).take (Tryz.prog.cellsOf f2.type)) = some y2 ∧ DataW.trod enc Tryz.prog W 0 (fun _ => true) true n f3.type ((cs.drop f3.offset).take (Tryz.prog.cellsOf f3.type)) = some y3 ∧ DataW.trod enc Tryz.prog W 0 (fun _ => true) true n f4.type ((cs.drop f4.offset).take (Tryz.prog.cellsOf f4.type)) = some y4 := by
  obtain ⟨xs, n, _, rfl, hl, hlen, hf⟩ := DataW.trod_struct ht h
  match xs, hlen with
  | [y0, y1, y2, y3, y4], _ => exact ⟨y0, y1, y2, y3, y4, n, hl, by simpa using hf 0 f0 rfl, by simpa using hf 1 f1 rfl, by simpa using hf 2 f2 rfl, by simpa using hf 3 f3 rfl, by simpa using hf 4 f4 rfl⟩

theorem open_rows {fuel : Nat} {cs : List Value} {x : DataW H × List MemPlace} (h : DataW.trod enc Tryz.prog W 0 (fun _ => true) true fuel 86 cs = some x) :
    ∃ a n cap l, cs = [.slice a n cap] ∧ n = l.length ∧ RowsAt 0 W.heap.size W (.slice a n cap) l ∧ WfRw l := by
  have hce : Tryz.prog.cellsOf 187 = 3 := by kernel_rfl
  have hck : Tryz.prog.cellsOf 44 = 2 := by kernel_rfl
  have hci : Tryz.prog.cellsOf 3 = 1 := by kernel_rfl
  rcases open_slice Tryz.underlying86 h with ⟨rfl, _⟩ | ⟨a, len, cap, m, n, D, Pl, rfl, _, hl, hm, hmm, _, hx⟩
  · exact ⟨none, 0, 0, [], rfl, rfl, ⟨none, 0, rfl, Nat.zero_le _, fun h => absurd h (Nat.lt_irrefl _)⟩, fun i hi => absurd hi (Nat.not_lt_zero _)⟩
  · obtain rfl : m = cap := by simpa using hmm
    have inh : Inhabited Rw := ⟨rw0⟩
    obtain ⟨f, hf⟩ := choose_lt (α := Rw) (n := len) (p := fun i q => W.cell? (a.add (i * 3)) = some (.int .i64 q.t) ∧ W.cell? (a.add (i * 3 + 1)) = some (.int .i64 q.r) ∧ W.cell? (a.add (i * 3 + 2)) = some (.int .i64 q.v) ∧ wf q.t ∧ wf q.r) (fun i hi => by
      obtain ⟨cs', h1, h2⟩ := hx i (by omega)
      rw [hce] at h1
      obtain ⟨_, hlen, hcell⟩ := World.cells?_some h1
      obtain ⟨y0, y1, n, _, _, h0, h1⟩ := trod_struct2 Tryz.underlying187 h2
      match cs', hlen with
      | [v0, v1, v2], _ =>
        simp only [hck, hci] at h0 h1
        obtain ⟨k0, k1, ek, wk0, wk1⟩ := open_key_cells h0
        obtain ⟨n1, e1', _, w1⟩ := DataW.trod_int Tryz.underlying3 h1
        simp at ek e1'
        have e0 := hcell 0 (by omega)
        have e1 := hcell 1 (by omega)
        have e2 := hcell 2 (by omega)
        rw [add_add] at e0 e1 e2
        refine ⟨⟨k0, k1, n1⟩, ?_, ?_, ?_, wk0, wk1⟩
        · simpa [ek.1] using e0
        · simpa [ek.2] using e1
        · simpa [e1'] using e2)
    refine ⟨some a, len, m, (List.range len).map f, rfl, by simp, ⟨some a, m, by simp, by simp; omega, fun hp => ?_⟩, fun i hi => by
      have hi' : i < len := by simpa using hi
      have e : rAt ((List.range len).map f) i = f i := by simp [rAt, hi']
      obtain ⟨_, _, _, g⟩ := hf i hi'
      rw [e]; exact g⟩
    have hlen : 0 < len := by simpa using hp
    have ha := spot_plain (by simpa using (hf 0 (by omega)).1)
    refine ⟨a.block, a.off, by rw [← ha], Nat.zero_le _, cell_lt (hf 0 (by omega)).1 |> fun h => by simpa [Addr.add] using h, fun i hi => ?_⟩
    have hi' : i < len := by simpa using hi
    obtain ⟨g0, g1, g2, _⟩ := hf i hi'
    have e : rAt ((List.range len).map f) i = f i := by simp [rAt, hi']
    rw [add_plain g0] at g0
    rw [add_plain g1] at g1
    rw [add_plain g2] at g2
    rw [e]
    exact ⟨g0, by simpa [Nat.add_assoc] using g1, by simpa [Nat.add_assoc] using g2⟩

theorem open_evs {fuel : Nat} {cs : List Value} {x : DataW H × List MemPlace} (h : DataW.trod enc Tryz.prog W 0 (fun _ => true) true fuel 26 cs = some x) :
    ∃ v l, cs = [v] ∧ EvsAt 0 W.heap.size W v l := by
  have hce : Tryz.prog.cellsOf 106 = 6 := by kernel_rfl
  have hck : Tryz.prog.cellsOf 44 = 2 := by kernel_rfl
  have hci : Tryz.prog.cellsOf 3 = 1 := by kernel_rfl
  rcases open_slice Tryz.underlying26 h with ⟨rfl, _⟩ | ⟨a, len, cap, m, n, D, Pl, rfl, _, hl, hm, hmm, _, hx⟩
  · exact ⟨_, [], rfl, none, 0, rfl, Nat.zero_le _, fun h => absurd h (Nat.lt_irrefl _)⟩
  · obtain rfl : m = cap := by simpa using hmm
    have inh : Inhabited Ed := ⟨ed0⟩
    obtain ⟨f, hf⟩ := choose_lt (α := Ed) (n := len) (p := fun i q => W.cell? (a.add (i * 6)) = some (.int .i64 q.k) ∧ W.cell? (a.add (i * 6 + 1)) = some (.int .i64 q.x) ∧ W.cell? (a.add (i * 6 + 2)) = some (.int .i64 q.t) ∧ W.cell? (a.add (i * 6 + 3)) = some (.int .i64 q.r) ∧ W.cell? (a.add (i * 6 + 4)) = some (.int .i64 q.v) ∧ W.cell? (a.add (i * 6 + 5)) = some (.int .i64 q.a)) (fun i hi => by
      obtain ⟨cs', h1, h2⟩ := hx i (by omega)
      rw [hce] at h1
      obtain ⟨_, hlen, hcell⟩ := World.cells?_some h1
      obtain ⟨y0, y1, y2, y3, y4, n, _, h0, h1, h2, h3, h4⟩ := trod_struct5 Tryz.underlying106 h2
      match cs', hlen with
      | [v0, v1, v2, v3, v4, v5], _ =>
        simp only [hck, hci] at h0 h1 h2 h3 h4
        obtain ⟨n0, d0, _, _⟩ := DataW.trod_int Tryz.underlying3 h0
        obtain ⟨n1, d1, _, _⟩ := DataW.trod_int Tryz.underlying3 h1
        obtain ⟨k0, k1, ek, _, _⟩ := open_key_cells h2
        obtain ⟨n3, d3, _, _⟩ := DataW.trod_int Tryz.underlying3 h3
        obtain ⟨n4, d4, _, _⟩ := DataW.trod_int Tryz.underlying3 h4
        simp at ek d0 d1 d3 d4
        have e0 := hcell 0 (by omega)
        have e1 := hcell 1 (by omega)
        have e2 := hcell 2 (by omega)
        have e3 := hcell 3 (by omega)
        have e4 := hcell 4 (by omega)
        have e5 := hcell 5 (by omega)
        rw [add_add] at e0 e1 e2 e3 e4 e5
        refine ⟨⟨n0, n1, k0, k1, n3, n4⟩, ?_, ?_, ?_, ?_, ?_, ?_⟩
        · simpa [d0] using e0
        · simpa [d1] using e1
        · simpa [ek.1] using e2
        · simpa [ek.2] using e3
        · simpa [d3] using e4
        · simpa [d4] using e5)
    refine ⟨.slice (some a) len m, (List.range len).map f, rfl, some a, m, by simp, by simp; omega, fun hp => ?_⟩
    have hlen : 0 < len := by simpa using hp
    have ha := spot_plain (by simpa using (hf 0 (by omega)).1)
    refine ⟨a.block, a.off, by rw [← ha], Nat.zero_le _, cell_lt (hf 0 (by omega)).1 |> fun h => by simpa [Addr.add] using h, fun i hi => ?_⟩
    have hi' : i < len := by simpa using hi
    obtain ⟨g0, g1, g2, g3, g4, g5⟩ := hf i hi'
    have e : eAt ((List.range len).map f) i = f i := by simp [eAt, hi']
    rw [add_plain g0] at g0
    rw [add_plain g1] at g1
    rw [add_plain g2] at g2
    rw [add_plain g3] at g3
    rw [add_plain g4] at g4
    rw [add_plain g5] at g5
    rw [e]
    exact ⟨g0, by simpa [Nat.add_assoc] using g1, by simpa [Nat.add_assoc] using g2, by simpa [Nat.add_assoc] using g3, by simpa [Nat.add_assoc] using g4, by simpa [Nat.add_assoc] using g5⟩

theorem open_txs {fuel : Nat} {cs : List Value} {x : DataW H × List MemPlace} (h : DataW.trod enc Tryz.prog W 0 (fun _ => true) true fuel 25 cs = some x) :
    ∃ v l, cs = [v] ∧ TxsAt 0 W.heap.size W v l ∧ ∀ i, i < l.length → WfRw (tAt l i).w := by
  have hce : Tryz.prog.cellsOf 88 = 3 := by kernel_rfl
  have hci : Tryz.prog.cellsOf 3 = 1 := by kernel_rfl
  have hcl : Tryz.prog.cellsOf 86 = 1 := by kernel_rfl
  rcases open_slice Tryz.underlying25 h with ⟨rfl, _⟩ | ⟨a, len, cap, m, n, D, Pl, rfl, _, hl, hm, hmm, _, hx⟩
  · exact ⟨_, [], rfl, ⟨none, 0, rfl, Nat.zero_le _, fun h => absurd h (Nat.lt_irrefl _)⟩, fun i hi => absurd hi (Nat.not_lt_zero _)⟩
  · obtain rfl : m = cap := by simpa using hmm
    have inh : Inhabited Td := ⟨td0⟩
    obtain ⟨f, hf⟩ := choose_lt (α := Td) (n := len) (p := fun i q => W.cell? (a.add (i * 3)) = some (.int .i64 q.i) ∧ W.cell? (a.add (i * 3 + 1)) = some (.int .i64 q.s) ∧
        ∃ a' c', W.cell? (a.add (i * 3 + 2)) = some (.slice a' q.w.length c') ∧ RowsAt 0 W.heap.size W (.slice a' q.w.length c') q.w ∧ WfRw q.w) (fun i hi => by
      obtain ⟨cs', h1, h2⟩ := hx i (by omega)
      rw [hce] at h1
      obtain ⟨_, hlen, hcell⟩ := World.cells?_some h1
      obtain ⟨y0, y1, y2, n, _, _, h0, h1, h2⟩ := trod_struct3 Tryz.underlying88 h2
      match cs', hlen with
      | [v0, v1, v2], _ =>
        simp only [hci, hcl] at h0 h1 h2
        obtain ⟨n0, d0, _, _⟩ := DataW.trod_int Tryz.underlying3 h0
        obtain ⟨n1, d1, _, _⟩ := DataW.trod_int Tryz.underlying3 h1
        obtain ⟨a', n', c', l', el, rfl, hv, hwf⟩ := open_rows h2
        simp at d0 d1 el
        have e0 := hcell 0 (by omega)
        have e1 := hcell 1 (by omega)
        have e2 := hcell 2 (by omega)
        rw [add_add] at e0 e1 e2
        refine ⟨⟨n0, n1, l'⟩, ?_, ?_, a', c', ?_, hv, hwf⟩
        · simpa [d0] using e0
        · simpa [d1] using e1
        · simpa [el] using e2)
    refine ⟨.slice (some a) len m, (List.range len).map f, rfl, ⟨some a, m, by simp, by simp; omega, fun hp => ?_⟩, fun i hi => by
      have hi' : i < len := by simpa using hi
      have e : tAt ((List.range len).map f) i = f i := by simp [tAt, hi']
      obtain ⟨_, _, _, _, _, _, g⟩ := hf i hi'
      rw [e]; exact g⟩
    have hlen : 0 < len := by simpa using hp
    have ha := spot_plain (by simpa using (hf 0 (by omega)).1)
    refine ⟨a.block, a.off, by rw [← ha], Nat.zero_le _, cell_lt (hf 0 (by omega)).1 |> fun h => by simpa [Addr.add] using h, fun i hi => ?_⟩
    have hi' : i < len := by simpa using hi
    obtain ⟨g0, g1, a', c', g2, g3, _⟩ := hf i hi'
    have e : tAt ((List.range len).map f) i = f i := by simp [tAt, hi']
    rw [add_plain g0] at g0
    rw [add_plain g1] at g1
    rw [add_plain g2] at g2
    rw [e]
    exact ⟨g0, by simpa [Nat.add_assoc] using g1, a', c', by simpa [Nat.add_assoc] using g2, g3⟩

theorem open_mgr {r : Reach} {b0 : Nat} {v0 : Value} {d : DataW H} {p : List MemPlace} (hv : Value.okWide Tryz.prog W r b0 28 v0) (h : DataW.Trod enc Tryz.prog W 0 (fun _ => true) true 28 v0 d p) :
    ∃ vs vt ve m, v0 = .agg #[vs, .int .i64 m.c, .int .i64 m.n, vt, ve] ∧ MAt 0 W.heap.size W vs vt ve m ∧ WfM m := by
  obtain ⟨cs, rfl, hsz⟩ := okWide_struct Tryz.underlying28 hv
  have hc : Tryz.prog.cellsOf 28 = 5 := by kernel_rfl
  have hcs : Tryz.prog.cellsOf 24 = 1 := by kernel_rfl
  have hci : Tryz.prog.cellsOf 3 = 1 := by kernel_rfl
  have hct : Tryz.prog.cellsOf 25 = 1 := by kernel_rfl
  have hce : Tryz.prog.cellsOf 26 = 1 := by kernel_rfl
  have hcl : Tryz.prog.cellsOf 22 = 1 := by kernel_rfl
  rw [hc] at hsz
  obtain ⟨fuel, hf⟩ := h
  obtain ⟨y0, y1, y2, y3, y4, n, _, h0, h1, h2, h3, h4⟩ := trod_struct5 Tryz.underlying28 hf
  obtain ⟨u0, u1, u2, u3, u4, rfl⟩ : ∃ u0 u1 u2 u3 u4, cs = #[u0, u1, u2, u3, u4] := by
    match cs, hsz with
    | ⟨[u0, u1, u2, u3, u4]⟩, _ => exact ⟨u0, u1, u2, u3, u4, rfl⟩
  simp only [hcs, hci, hct, hce] at h0 h1 h2 h3 h4
  obtain ⟨y00, n0, _, _, h00⟩ := trod_struct1 Tryz.underlying24 h0
  simp only [hcl] at h00
  obtain ⟨v, l, e0, hl, hw⟩ := open_chains h00
  obtain ⟨n1, d1, _, _⟩ := DataW.trod_int Tryz.underlying3 h1
  obtain ⟨n2, d2, _, _⟩ := DataW.trod_int Tryz.underlying3 h2
  obtain ⟨vt, lt, e3, ht, hwt⟩ := open_txs h3
  obtain ⟨ve, le, e4, hv4⟩ := open_evs h4
  simp [Value.cells] at e0 d1 d2 e3 e4
  exact ⟨v, vt, ve, ⟨l, n1, n2, lt, le⟩, by rw [e0, d1, d2, e3, e4], ⟨hl, ht, hv4⟩, hw, hwt⟩

end
end Go.Proofs.YtmecbppblbmchaaGreatDoor

/- What the laws of reading and writing transactions share: the key's box, an answer that stands in a variable. -/
namespace Go.Proofs.YtmecbppblbmchaaGreatDoor
open Go.ChangeShapes Go.WideShapes Go.ChangeAt Go.RowKit Go.Sort
set_option linter.unusedVariables false
set_option maxRecDepth 100000

theorem MBox.same' {w w' : World} {b : Nat} {vs : Value} {c n : Int} {vt ve : Value} (h : MBox w b vs c n vt ve) (e : w'.heap[b]? = w.heap[b]?) : MBox w' b vs c n vt ve := by
  obtain ⟨h0, h1, h2, h3, h4⟩ := h
  exact ⟨cell_same e h0, cell_same e h1, cell_same e h2, cell_same e h3, cell_same e h4⟩
theorem MBox.lt' {w : World} {b : Nat} {vs : Value} {c n : Int} {vt ve : Value} (h : MBox w b vs c n vt ve) : b < w.heap.size := by
  obtain ⟨h0, _⟩ := h
  exact cell_lt h0
theorem MAt.keep' {lo hi : Nat} {w w' : World} {vs vt ve : Value} {m : Md} (h : MAt lo hi w vs vt ve m) (hs : ∀ b, lo ≤ b → b < hi → b < w.heap.size → w'.heap[b]? = w.heap[b]?) : MAt lo hi w' vs vt ve m := ⟨h.s.keep hs, h.x.keep hs, h.h.keep hs⟩

/-- The variable that holds the key. -/
def KBox (x : World) (b : Nat) (t r : Int) : Prop := x.cell? ⟨b, 0, none⟩ = some (.int .i64 t) ∧ x.cell? ⟨b, 1, none⟩ = some (.int .i64 r)
theorem KBox.same {w w' : World} {b : Nat} {t r : Int} (h : KBox w b t r) (e : w'.heap[b]? = w.heap[b]?) : KBox w' b t r := ⟨cell_same e h.1, cell_same e h.2⟩
theorem KBox.stays {w w' : World} {b : Nat} {t r : Int} (h : KBox w b t r) (hb : Below w.heap.size w w') : KBox w' b t r := h.same (hb.block _ (cell_lt h.1))
theorem KBox.lt {w : World} {b : Nat} {t r : Int} (h : KBox w b t r) : b < w.heap.size := cell_lt h.1

/-- An answer that stands in a variable V of its own. -/
structure BoxA (W x : World) (V : Nat) (vs vt ve : Value) (o : Md) (lo hi s0 s1 : Nat) (wv : Nat → Value) : Prop where
  b : Below W.heap.size W x
  box : MBox x V vs o.c o.n vt ve
  own : OwnM lo x s0 s1 vs vt ve o wv
  wr : WrM x lo hi s0 s1 vs vt ve o wv
  out : V < lo ∨ hi ≤ V
  nv : W.heap.size ≤ V
  nl : W.heap.size ≤ lo
theorem boxA_set {W c : World} {V lo s0 s1 : Nat} {vs vt ve : Value} {o : Md} {wv : Nat → Value} {f : Nat → Value} (hO : OwnM lo c s0 s1 vs vt ve o wv) (bW : Below W.heap.size W c) (hV : V < lo) (hr : RowOf c V 36 5 f) (nv : W.heap.size ≤ V) :
    BoxA W (((((c.setCell ⟨V, 0, none⟩ vs).setCell ⟨V, 1, none⟩ (.int .i64 o.c)).setCell ⟨V, 2, none⟩ (.int .i64 o.n)).setCell ⟨V, 3, none⟩ vt).setCell ⟨V, 4, none⟩ ve) V vs vt ve o lo c.heap.size s0 s1 wv := by
  obtain ⟨kz, kk⟩ := boxed_keep0 c V vs (.int .i64 o.c) (.int .i64 o.n) vt ve
  have hz : (((((c.setCell ⟨V, 0, none⟩ vs).setCell ⟨V, 1, none⟩ (.int .i64 o.c)).setCell ⟨V, 2, none⟩ (.int .i64 o.n)).setCell ⟨V, 3, none⟩ vt).setCell ⟨V, 4, none⟩ ve).heap.size = c.heap.size := by simp only [size_setCell]
  have hr5 := ((((hr.set 0 vs).set 1 (.int .i64 o.c)).set 2 (.int .i64 o.n)).set 3 vt).set 4 ve
  refine ⟨?_, ⟨by simpa using hr5.cell (show 0 < 5 by omega), by simpa using hr5.cell (show 1 < 5 by omega), by simpa using hr5.cell (show 2 < 5 by omega), by simpa using hr5.cell (show 3 < 5 by omega), by simpa using hr5.cell (show 4 < 5 by omega)⟩, hO.keep (fun k h1 h2 => kk k (by omega) h2) kz, (WrM.of_own hO).keep (fun k h1 h2 h3 => kk k (by omega) h3) kz, .inl hV, nv, by omega⟩
  exact ((((bW.setCell nv _).setCell nv _).setCell nv _).setCell nv _).setCell nv _
theorem boxA_new {W c : World} {lo s0 s1 : Nat} {vs vt ve : Value} {o : Md} {wv : Nat → Value} (hO : OwnM lo c s0 s1 vs vt ve o wv) (bW : Below W.heap.size W c) (nl : W.heap.size ≤ lo) :
    BoxA W (c.alloc (Obj.cells #[vs, .int .i64 o.c, .int .i64 o.n, vt, ve] 36)) c.heap.size vs vt ve o lo c.heap.size s0 s1 wv :=
  ⟨bW.alloc bW.size _, MBox.new c _ _ _ _ _ _, hO.stays (below_alM _ _), (WrM.of_own hO).stays (below_alM _ _), .inr (Nat.le_refl _), bW.size, nl⟩

/-- What stands through the law: the boxes, and the specification's answer. -/
structure SR (w : World) (a1 a2 a3 : Value) (m : Md) (t r : Int) (bw : Nat) (w1 w2 w3 : Value) (o : Md) (bx : Nat) (x1 x2 x3 : Value) (bg : Nat) (g1 g2 g3 : Value) (lo hi : Nat) (x : World) : Prop where
  b : Below w.heap.size w x
  pa : MBox x w.heap.size a1 m.c m.n a2 a3
  ka : KBox x (w.heap.size + 1) t r
  pw : MBox x bw w1 o.c o.n w2 w3
  px : MBox x bx x1 m.c m.n x2 x3
  pg : MBox x bg g1 o.c o.n g2 g3
  ow : MAt lo hi x w1 w2 w3 o
theorem SR.stays {w : World} {a1 a2 a3 : Value} {m : Md} {t r : Int} {bw : Nat} {w1 w2 w3 : Value} {o : Md} {bx : Nat} {x1 x2 x3 : Value} {bg : Nat} {g1 g2 g3 : Value} {lo hi : Nat} {x y : World} (h : SR w a1 a2 a3 m t r bw w1 w2 w3 o bx x1 x2 x3 bg g1 g2 g3 lo hi x) (hb : Below x.heap.size x y) : SR w a1 a2 a3 m t r bw w1 w2 w3 o bx x1 x2 x3 bg g1 g2 g3 lo hi y :=
  ⟨h.b.trans (hb.mono h.b.size), h.pa.stays hb, h.ka.stays hb, h.pw.stays hb, h.px.stays hb, h.pg.stays hb, h.ow.stays hb⟩
theorem SR.mark {w : World} {a1 a2 a3 : Value} {m : Md} {t r : Int} {bw : Nat} {w1 w2 w3 : Value} {o : Md} {bx : Nat} {x1 x2 x3 : Value} {bg : Nat} {g1 g2 g3 : Value} {lo hi : Nat} {x y : World} (h : SR w a1 a2 a3 m t r bw w1 w2 w3 o bx x1 x2 x3 bg g1 g2 g3 lo hi x) {p q : Nat}
    (hk : ∀ k, ¬ (p ≤ k ∧ k < q) → k < x.heap.size → y.heap[k]? = x.heap[k]?) (h1 : y.os = x.os) (h2 : y.tape = x.tape) (h3 : y.output = x.output) (h4 : x.heap.size ≤ y.heap.size)
    (n1 : w.heap.size + 1 < p) (n2 : ¬ (p ≤ bw ∧ bw < q)) (n3 : ¬ (p ≤ bx ∧ bx < q)) (n4 : ¬ (p ≤ bg ∧ bg < q)) (n5 : hi ≤ p) : SR w a1 a2 a3 m t r bw w1 w2 w3 o bx x1 x2 x3 bg g1 g2 g3 lo hi y := by
  have hz := h.b.size
  exact ⟨h.b.trans ⟨h1, h2, h3, h4, fun k hk' => hk k (by omega) (by omega)⟩, h.pa.same' (hk _ (by omega) h.pa.lt'), h.ka.same (hk _ (by omega) h.ka.lt), h.pw.same' (hk _ n2 h.pw.lt'), h.px.same' (hk _ n3 h.px.lt'), h.pg.same' (hk _ n4 h.pg.lt'), h.ow.keep' fun b hb1 hb2 hb3 => hk b (by omega) hb3⟩
end Go.Proofs.YtmecbppblbmchaaGreatDoor
