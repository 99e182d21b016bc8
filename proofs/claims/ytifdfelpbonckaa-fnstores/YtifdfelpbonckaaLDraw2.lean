/- spec.l1draw: a store that is drawn. -/
import Derived.Test.YtifdfelpbonckaaPutL
import Derived.Test.YtifdfelpbonckaaDraw0
namespace Go.Proofs.Ytifdfelpbonckaa
open Go.ChangeShapes Go.WideShapes Go.ChangeAt Go.RowKit Go.Maps Go.Sort
set_option linter.unusedVariables false
set_option maxRecDepth 100000
attribute [local go_sem ↓] Go.wp_at_zero Go.wp_at_succ

/-- Chains of at most m versions each, with small keys. -/
def SmC (m : Nat) (l : List Ch) : Prop := l.length ≤ m ∧ ∀ c ∈ l, 0 < c.l.length ∧ c.l.length ≤ m ∧ (0 ≤ c.t ∧ c.t < 3) ∧ (0 ≤ c.r ∧ c.r < 3)
theorem SmC.at {m : Nat} {l : List Ch} (h : SmC m l) {i : Nat} (hi : i < l.length) : 0 < (cAt l i).l.length ∧ (cAt l i).l.length ≤ m ∧ (0 ≤ (cAt l i).t ∧ (cAt l i).t < 3) ∧ (0 ≤ (cAt l i).r ∧ (cAt l i).r < 3) := by
  have e : cAt l i = l[i] := by simp [cAt, hi]
  rw [e]; exact h.2 _ (List.getElem_mem hi)
theorem mem_set_or {α : Type} {l : List α} {n : Nat} {y x : α} (h : x ∈ l.set n y) : x ∈ l ∨ x = y := List.mem_or_eq_of_mem_set h
theorem cAt_memD {l : List Ch} {i : Nat} (hi : i < l.length) : cAt l i ∈ l := by
  have e : cAt l i = l[i] := by simp [cAt, hi]
  rw [e]; exact List.getElem_mem hi
theorem bub_mem : ∀ (i : Nat) (l : List Ch), i < l.length → (bub l i).length = l.length ∧ ∀ x ∈ bub l i, x ∈ l
  | 0, l, _ => ⟨rfl, fun x h => h⟩
  | i + 1, l, hi => by
    unfold bub
    split
    · have hl : (swpC l i).length = l.length := by simp [swpC]
      obtain ⟨h1, h2⟩ := bub_mem i (swpC l i) (by omega)
      refine ⟨by omega, fun x hx => ?_⟩
      have := h2 x hx
      unfold swpC at this
      rcases mem_set_or this with h | rfl
      · rcases mem_set_or h with h | rfl
        · exact h
        · exact cAt_memD (by omega)
      · exact cAt_memD hi
    · exact ⟨rfl, fun x h => h⟩
theorem IsPut.small {m : Nat} {l l' : List Ch} {t r : Int} {x : Vr} (h : IsPut l t r x l') (hs : SmC m l) (ht : 0 ≤ t ∧ t < 3) (hr : 0 ≤ r ∧ r < 3) : SmC (m + 1) l' := by
  rcases h with ⟨n, hn, hk, _, rfl⟩ | ⟨_, rfl⟩
  · have ha := hs.at hn
    refine ⟨by rw [List.length_set]; have := hs.1; omega, fun c hc => ?_⟩
    rcases mem_set_or hc with h | rfl
    · obtain ⟨h1, h2, h3⟩ := hs.2 c h
      exact ⟨h1, by omega, h3⟩
    · exact ⟨by simp, by simp; omega, ht, hr⟩
  · obtain ⟨h1, h2⟩ := bub_mem l.length (l ++ [⟨t, r, [x]⟩]) (by simp)
    have hl := hs.1
    refine ⟨by rw [h1]; simp; omega, fun c hc => ?_⟩
    rcases List.mem_append.1 (h2 c hc) with h | h
    · obtain ⟨a1, a2, a3⟩ := hs.2 c h
      exact ⟨a1, by omega, a3⟩
    · rw [List.mem_singleton] at h
      subst h
      exact ⟨by simp, by first | (simp; done) | (simp; omega), ht, hr⟩

theorem Cur.low {w w' : World} {cb : Nat} (h : Cur w cb) (hk : ∀ k, k ≤ cb → w'.heap[k]? = w.heap[k]?) : Cur w' cb := by
  obtain ⟨a, n, cap, i, hh, h1, h2, h3, h4, h5⟩ := h
  refine ⟨a, n, cap, i, hh, h1, h2, h3, h4.of_block (hk _ (Nat.le_refl _)), fun hp => ?_⟩
  obtain ⟨b, off, g1, g2, g3⟩ := h5 hp
  refine ⟨b, off, g1, g2, fun j hj => ?_⟩
  obtain ⟨x, x0, x1, x2⟩ := g3 j hj
  exact ⟨x, x0, x1, cell_same (hk b (by omega)) x2⟩

/-- While a store is drawn: the cursor, the result, the store's variable, what it holds. -/
structure DR (w : World) (cb : Nat) (ov : Value) (q : List Qc) (x : World) : Prop where
  sz : w.heap.size + 2 ≤ x.heap.size
  g : w.grownBy x (some cb)
  cu : Cur x cb
  p0 : x.cell? ⟨w.heap.size, 0, none⟩ = some (.slice none 0 0)
  q0 : x.frozen? ⟨w.heap.size, 0, none⟩ = false
  p1 : x.cell? ⟨w.heap.size + 1, 0, none⟩ = some ov
  q1 : x.frozen? ⟨w.heap.size + 1, 0, none⟩ = false
  O : OwnQ (w.heap.size + 2) x ov q
theorem DR.go {w : World} {cb : Nat} {ov : Value} {q : List Qc} {x y : World} (h : DR w cb ov q x) (hcb : cb < w.heap.size) (hg : x.grownBy y (some cb)) (hc : Cur y cb) : DR w cb ov q y where
  sz := by have := h.sz; have := hg.size; omega
  g := gb_tr h.g hg
  cu := hc
  p0 := (hg.cell_far _ (by have := h.sz; show w.heap.size < _; omega) (by intro e; injection e with e; simp at e; omega)).trans h.p0
  q0 := (hg.frozen_far _ (by have := h.sz; show w.heap.size < _; omega) (by intro e; injection e with e; simp at e; omega)).trans h.q0
  p1 := (hg.cell_far _ (by have := h.sz; show w.heap.size + 1 < _; omega) (by intro e; injection e with e; simp at e; omega)).trans h.p1
  q1 := (hg.frozen_far _ (by have := h.sz; show w.heap.size + 1 < _; omega) (by intro e; injection e with e; simp at e; omega)).trans h.q1
  O := h.O.keep fun g hg' hl => hg.block g hl (by intro e; injection e with e; have := (h.O.base hg').1; omega)
theorem DR.put {w : World} {cb : Nat} {ov : Value} {q : List Qc} {x y : World} {t r : Int} {v : Vr} (h : DR w cb ov q x) (hcb : cb < w.heap.size) (hp : PutTo (w.heap.size + 2) (w.heap.size + 1) x ov q t r v y) : ∃ ov' q', DR w cb ov' q' y ∧ IsPut (qchs q) t r v (qchs q') := by
  obtain ⟨ov', q', a1, a2, a3, a4, a5, a6⟩ := hp
  have lo : ∀ k, k < w.heap.size + 1 → y.heap[k]? = x.heap[k]? := fun k hk => a5.block k (by have := h.sz; omega) (fun e => by
    rcases e with e | e
    · omega
    · have := (h.O.base e).1; omega)
  refine ⟨ov', q', ⟨?_, ?_, h.cu.low fun k hk => lo k (by omega), cell_same (lo w.heap.size (by omega)) h.p0, ?_, a1, a2, a3⟩, a4⟩
  · have := h.sz; have := a5.size; omega
  · exact ⟨a5.os.trans h.g.os, a5.tape.trans h.g.tape, a5.output.trans h.g.output, Nat.le_trans h.g.size a5.size, fun j hj hne => (lo j (by omega)).trans (h.g.block j hj hne)⟩
  · rw [World.frozen?_of_block (w := x) (a := ⟨w.heap.size, 0, none⟩) (lo w.heap.size (by omega))]; exact h.q0

theorem build_ver (a b : Int) (w : World) : (Instr.build 69 #[(0, .int .i64 a), (1, .int .i64 b)]).run Try.prog w = .ok (.agg #[.int .i64 a, .int .i64 b]) w := by kernel_rfl

/-- A store that is drawn, owned. -/
def DrawAns (w : World) (cb : Nat) (w' : World) (e : Ending) : Prop := ∃ ov q, e = .returned (.agg #[ov]) ∧ OwnQ (w.heap.size + 2) w' ov q ∧ SmC 12 (qchs q) ∧ Cur w' cb ∧ w.grownBy w' (some cb) ∧ w.heap.size + 2 ≤ w'.heap.size

set_option maxHeartbeats 4000000 in
theorem l1draw_any (cb : Nat) (w : World) (hc : Cur w cb) :
    Calls Try.prog 52 #[.pointer (some ⟨cb, 0, none⟩)] w fun e w' => DrawAns w cb w' e := by
  have hcl := hc.lt
  have bA : Below w.heap.size w ((w.alloc (Obj.cells #[.slice none 0 0] 25)).alloc (Obj.cells #[.slice none 0 0] 25)) := ((Below.refl _ _).alloc (Nat.le_refl _) _).alloc (by simp) _
  have hbv := build_ver
  go_enter Try.func52, Try.ntmps52
  go_wp2_with fail
  refine (l1Below_any cb 12 _ (hc.stays bA)).mono ?_
  rintro e w1 ⟨⟨x, rfl, hx0, hx1⟩, hc1, hg1⟩
  have hx2 := hx1 (by omega)
  have hz1 : w.heap.size + 2 ≤ w1.heap.size := by have := hg1.size; simp at this; omega
  have gA : w.grownBy ((w.alloc (Obj.cells #[.slice none 0 0] 25)).alloc (Obj.cells #[.slice none 0 0] 25)) (some cb) := gb_be _ bA
  have g1 := gb_tr gA hg1
  have r1 : w1.cell? ⟨w.heap.size, 0, none⟩ = some (.slice none 0 0) := (hg1.cell_far _ (by simp; omega) (by intro e; injection e with e; simp at e; omega)).trans (by simp [go_sem])
  have f1 : w1.frozen? ⟨w.heap.size, 0, none⟩ = false := (hg1.frozen_far _ (by simp; omega) (by intro e; injection e with e; simp at e; omega)).trans (by simp [go_sem])
  have r2 : w1.cell? ⟨w.heap.size + 1, 0, none⟩ = some (.slice none 0 0) := (hg1.cell_far _ (by simp) (by intro e; injection e with e; simp at e; omega)).trans (by simp [go_sem])
  have f2 : w1.frozen? ⟨w.heap.size + 1, 0, none⟩ = false := (hg1.frozen_far _ (by simp) (by intro e; injection e with e; simp at e; omega)).trans (by simp [go_sem])
  clear hg1 bA hx1 hc gA
  go_wp2_with fail
  have hD : DR w cb (.slice none 0 0) [] w1 := ⟨hz1, g1, hc1, r1, f1, r2, f2, OwnQ.nil _ _⟩
  clear r1 f1 r2 f2 hc1 g1 hz1
  go_loopw [4, 5] (fun h k wr => ∃ (n : Nat) (y z : Int) (ov : Value) (q : List Qc), n ≤ 12 ∧ k = .int .i64 y ∧ 0 ≤ y ∧ y + n ≤ 11 ∧ h = .int .i64 z ∧ 0 ≤ z ∧ z ≤ 3 * n ∧ DR w cb ov q wr ∧ SmC n (qchs q)) (fun _ k _ => (intOf k).toNat)
  case atStart => exact ⟨0, x, 0, _, [], by omega, rfl, hx0, by omega, rfl, by omega, by omega, hD, ⟨Nat.le_refl _, fun c hc => by simp [qchs] at hc⟩⟩
  case round =>
    rename World => wo
    clear hD hx0 hx2
    obtain ⟨n, y, z, ov, q, hn, rfl, hy0, hyn, rfl, hz0, hzn, hR, hS⟩ := hrel
    by_cases hy : 0 < y
    · go_wp2_with fail
      refine (l1Below_any cb 3 _ hR.cu).mono ?_
      rintro e w2 ⟨⟨x2, rfl, hx20, hx21⟩, hc2, hg2⟩
      have hx22 := hx21 (by omega)
      have hR2 := hR.go hcl hg2 hc2
      clear hR hg2 hc2 hx21
      go_wp2_with fail
      refine (l1key_any cb _ hR2.cu).mono ?_
      rintro e w3 ⟨⟨t, r, rfl, ht0, ht1, hr0, hr1⟩, hc3, hg3⟩
      have hR3 := hR2.go hcl hg3 hc3
      clear hR2 hg3 hc3
      go_wp2_with fail
      refine (l1Below_any cb 5 _ hR3.cu).mono ?_
      rintro e w4 ⟨⟨x4, rfl, hx40, hx41⟩, hc4, hg4⟩
      have hx42 := hx41 (by omega)
      have hR4 := hR3.go hcl hg4 hc4
      clear hR3 hg4 hc4 hx41
      go_wp2_with fail
      refine (l1put_any (w.heap.size + 1) ov q t r (z + 1 + x2, x4 - 1) _ hR4.O (by have := hR4.sz; omega) hR4.p1 hR4.q1 (fun g hg => by have := (hR4.O.base hg).1; omega) (by have := hS.1; rw [qchs_length] at this; omega) (fun i hi => by
        have h1 := hS.at (i := i) (by rw [qchs_length]; exact hi)
        rw [qchs_at q hi] at h1
        exact ⟨h1.1, by omega⟩)).mono ?_
      rintro e w5 ⟨rfl, hp⟩
      obtain ⟨ov', q', hR5, hI⟩ := hR4.put hcl hp
      have hS5 := hI.small hS ⟨ht0, ht1⟩ ⟨hr0, hr1⟩
      clear hp hR4 hI hS
      go_wp2
      go_roundw
      case rel => exact ⟨n + 1, y - 1, z + 1 + x2, ov', q', by omega, rfl, by omega, by omega, rfl, by omega, by omega, hR5, hS5⟩
      case measure => simp [intOf]; omega
    · obtain ⟨a0, n0, c0, rfl⟩ := owns_slice hR.O.row
      have hp1 := hR.p1
      have hp0 := hR.p0
      have hq0 := hR.q0
      have hsz := hR.sz
      go_wp2
      refine bodyPost_ret (v := .agg #[.slice a0 n0 c0]) (by simp [results, Try.results52, go_sem, hp0]) rfl ⟨_, q, rfl, ?_, ⟨by have := hS.1; omega, fun c hc => by obtain ⟨h1, h2, h3⟩ := hS.2 c hc; exact ⟨h1, by omega, h3⟩⟩, ?_, ?_, by rw [size_setCell]; exact hsz⟩
      · exact hR.O.keep fun g hg hl => Below.heap_setCell _ _ _ _ (by have := (hR.O.base hg).1; show g ≠ w.heap.size; omega)
      · exact hR.cu.low fun k hk => Below.heap_setCell _ _ _ _ (by show k ≠ w.heap.size; omega)
      · exact gb_new hR.g (Nat.le_refl _) _
end Go.Proofs.Ytifdfelpbonckaa
