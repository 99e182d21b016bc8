import Derived.Test.YtmecbppblbmchaaGreatDoorM0
import Derived.Test.YtmecbppblbmchaaGreatDoorCopyMgr
import Derived.Deep.Onto
/- impl.copyMgr: a copy of the whole that is owned, behind a pointer. -/
namespace Go.Proofs.YtmecbppblbmchaaGreatDoor
open Go.ChangeShapes Go.WideShapes Go.ChangeAt Go.RowKit Go.Sort
set_option linter.unusedVariables false
set_option maxRecDepth 100000
attribute [local go_sem ↓] Go.wp_at_zero Go.wp_at_succ

theorem ext3 {l l' : List Value} {n : Nat} (h : l.length = n * 3) (h' : l'.length = n * 3) (he : ∀ i, i < n → l[i * 3]? = l'[i * 3]? ∧ l[i * 3 + 1]? = l'[i * 3 + 1]? ∧ l[i * 3 + 2]? = l'[i * 3 + 2]?) : l = l' := by
  apply List.ext_getElem?
  intro j
  by_cases hj : j < n * 3
  · obtain ⟨e0, e1, e2⟩ := he (j / 3) (by omega)
    have hm : j % 3 = 0 ∨ j % 3 = 1 ∨ j % 3 = 2 := by omega
    rcases hm with hm | hm | hm
    · rw [show j = j / 3 * 3 by omega]; exact e0
    · rw [show j = j / 3 * 3 + 1 by omega]; exact e1
    · rw [show j = j / 3 * 3 + 2 by omega]; exact e2
  · rw [List.getElem?_eq_none (by omega), List.getElem?_eq_none (by omega)]
theorem flat_tri (l : List Rw) : flat l = tri l.length (fun i => .int .i64 (rAt l i).t) (fun i => .int .i64 (rAt l i).r) (fun i => .int .i64 (rAt l i).v) := by
  refine ext3 (n := l.length) (flat_length l) (tri_length _ _ _ _) fun i hi => ?_
  obtain ⟨a, b, c⟩ := flat_get l i hi
  obtain ⟨d, e, f⟩ := tri_get (fun i => Value.int IntKind.i64 (rAt l i).t) (fun i => Value.int IntKind.i64 (rAt l i).r) (fun i => Value.int IntKind.i64 (rAt l i).v) l.length i hi
  exact ⟨a.trans d.symm, b.trans e.symm, c.trans f.symm⟩
theorem rows_new {lo hi : Nat} {w : World} {a : Option Addr} {cap : Nat} {l : List Rw} (h : RowsAt lo hi w (.slice a l.length cap) l) (hn : l.length ≤ 1048576) :
    Calls Tryz.prog 68 #[.slice a l.length cap] w fun e w' => e = .returned (.slice (some ⟨w.heap.size, 0, none⟩) l.length l.length) ∧ w'.ownsRow w.heap.size 111 3 (.slice (some ⟨w.heap.size, 0, none⟩) l.length l.length) l.length (flat l) ∧ Below w.heap.size w w' := by
  have hc : CellsAt w a l.length (flat l) := fun hp => by
    obtain ⟨a', cap', e, hm, hc⟩ := h
    injection e with e1 e2 e3
    subst e1
    obtain ⟨b, off, rfl, _, _, hcc⟩ := hc hp
    exact ⟨b, off, rfl, by rw [flat_tri]; exact tri_cells hcc⟩
  refine (copyRow_block a l.length cap (flat l) w hn (flat_length l) (by rw [flat_tri]; exact tri_one fun i hi => ⟨rfl, rfl, rfl⟩) hc).mono ?_
  rintro e w' ⟨rfl, hB, hb⟩
  exact ⟨rfl, owns_new hB (flat_length l) (by unfold maxLen; omega) (Nat.le_refl _), hb⟩
theorem evs_new {lo hi : Nat} {w : World} {a : Option Addr} {cap : Nat} {l : List Ed} (h : EvsAt lo hi w (.slice a l.length cap) l) (hn : l.length ≤ 1048576) :
    Calls Tryz.prog 67 #[.slice a l.length cap] w fun e w' => e = .returned (.slice (some ⟨w.heap.size, 0, none⟩) l.length l.length) ∧ w'.ownsRow w.heap.size 101 6 (.slice (some ⟨w.heap.size, 0, none⟩) l.length l.length) l.length (hexa l) ∧ Below w.heap.size w w' := by
  refine (copyEv_block a l.length cap (hexa l) w hn (hexa_length l) (hexa_one l) h.cells).mono ?_
  rintro e w' ⟨rfl, hB, hb⟩
  exact ⟨rfl, owns_new hB (hexa_length l) (by unfold maxLen; omega) (Nat.le_refl _), hb⟩
theorem txs_new {w : World} {a : Option Addr} {cap : Nat} {l : List Td} {A : Nat → Option Addr × Nat} (h : CellsAt w a l.length (txf l A)) (hn : l.length ≤ 1048576) :
    Calls Tryz.prog 66 #[.slice a l.length cap] w fun e w' => e = .returned (.slice (some ⟨w.heap.size, 0, none⟩) l.length l.length) ∧ w'.ownsRow w.heap.size 97 3 (.slice (some ⟨w.heap.size, 0, none⟩) l.length l.length) l.length (txf l A) ∧ Below w.heap.size w w' := by
  refine (copyTx_block a l.length cap (txf l A) w hn (tri_length _ _ _ _) (tri_one fun i hi => ⟨rfl, rfl, rfl⟩) h).mono ?_
  rintro e w' ⟨rfl, hB, hb⟩
  exact ⟨rfl, owns_new hB (tri_length _ _ _ _) (by unfold maxLen; omega) (Nat.le_refl _), hb⟩

/-- The transactions' own row, the first k lists new. -/
def txm (l : List Td) (A : Nat → Option Addr × Nat) (wv : Nat → Value) (k : Nat) : List Value := tri l.length (fun i => .int .i64 (tAt l i).i) (fun i => .int .i64 (tAt l i).s) (fun i => if i < k then wv i else .slice (A i).1 (tAt l i).w.length (A i).2)
theorem txm_zero (l : List Td) (A : Nat → Option Addr × Nat) (wv : Nat → Value) : txm l A wv 0 = txf l A := by
  simp [txm, txf]
theorem tri_congr {n : Nat} {f g h h' : Nat → Value} (e : ∀ i, i < n → h i = h' i) : tri n f g h = tri n f g h' := by
  refine ext3 (n := n) (tri_length _ _ _ _) (tri_length _ _ _ _) fun i hi => ?_
  obtain ⟨a, b, c⟩ := tri_get f g h n i hi
  obtain ⟨a', b', c'⟩ := tri_get f g h' n i hi
  exact ⟨a.trans a'.symm, b.trans b'.symm, by rw [c, c', e i hi]⟩
theorem txm_all (l : List Td) (A : Nat → Option Addr × Nat) (wv : Nat → Value) : txm l A wv l.length = txc l wv := tri_congr fun i hi => by simp [hi]
theorem txm_step (l : List Td) (A : Nat → Option Addr × Nat) (wv : Nat → Value) {k : Nat} (hk : k < l.length) (v : Value) : (txm l A wv k).set (k * 3 + 2) v = txm l A (fun i => if i = k then v else wv i) (k + 1) := by
  refine ext3 (n := l.length) (by rw [List.length_set]; exact tri_length _ _ _ _) (tri_length _ _ _ _) fun i hi => ?_
  obtain ⟨a, b, c⟩ := tri_get (fun i => Value.int IntKind.i64 (tAt l i).i) (fun i => Value.int IntKind.i64 (tAt l i).s) (fun i => if i < k then wv i else .slice (A i).1 (tAt l i).w.length (A i).2) l.length i hi
  obtain ⟨a', b', c'⟩ := tri_get (fun i => Value.int IntKind.i64 (tAt l i).i) (fun i => Value.int IntKind.i64 (tAt l i).s) (fun i => if i < k + 1 then (if i = k then v else wv i) else .slice (A i).1 (tAt l i).w.length (A i).2) l.length i hi
  refine ⟨?_, ?_, ?_⟩
  · rw [List.getElem?_set_ne (by omega)]; exact a.trans a'.symm
  · rw [List.getElem?_set_ne (by omega)]; exact b.trans b'.symm
  · by_cases e : i = k
    · subst e
      rw [List.getElem?_set_self (by show i * 3 + 2 < (tri _ _ _ _).length; rw [tri_length]; omega)]
      show _ = (tri _ _ _ _)[i * 3 + 2]?
      rw [c']
      simp
    · rw [List.getElem?_set_ne (by omega)]
      refine c.trans (Eq.trans ?_ c'.symm)
      congr 1
      by_cases h1 : i < k
      · rw [if_pos h1, if_pos (by omega), if_neg e]
      · rw [if_neg h1, if_neg (by omega)]

theorem build_mgr (a1 a2 a3 : Option Addr) (n1 c1 n2 c2 n3 c3 : Nat) (c n : Int) (w : World) : (Instr.build 36 #[(0, .agg #[.slice a1 n1 c1]), (1, .int .i64 c), (2, .int .i64 n), (3, .slice a2 n2 c2), (4, .slice a3 n3 c3)]).run Tryz.prog w = .ok (.agg #[.slice a1 n1 c1, .int .i64 c, .int .i64 n, .slice a2 n2 c2, .slice a3 n3 c3]) w := by kernel_rfl
theorem below_alM (w : World) (o : Obj) : Below w.heap.size w (w.alloc o) := (Below.refl _ _).alloc (Nat.le_refl _) _

set_option maxHeartbeats 4000000 in
theorem copyMgr_own (vs vt ve : Value) (m : Md) (w : World) {lo hi : Nat} (h : MAt lo hi w vs vt ve m) (hn : SmallM m) :
    Calls Tryz.prog 33 #[.agg #[vs, .int .i64 m.c, .int .i64 m.n, vt, ve]] w fun e w' => ∃ B s0 s1 vs' vt' ve' wv, e = .returned (.pointer (some ⟨B, 0, none⟩)) ∧ PtrM w.heap.size w' B s0 s1 vs' vt' ve' m wv ∧ Below w.heap.size w w' := by
  obtain ⟨a1, cap1, hv1⟩ : ∃ a cap, vs = .slice a m.s.length cap := by obtain ⟨a, cap, h1, _⟩ := h.s; exact ⟨a, cap, h1⟩
  obtain ⟨a2, cap2, hv2⟩ : ∃ a cap, vt = .slice a m.x.length cap := by obtain ⟨a, cap, h1, _⟩ := h.x; exact ⟨a, cap, h1⟩
  obtain ⟨a3, cap3, hv3⟩ : ∃ a cap, ve = .slice a m.h.length cap := by obtain ⟨a, cap, h1, _⟩ := h.h; exact ⟨a, cap, h1⟩
  subst hv1 hv2 hv3
  obtain ⟨A, hcA, hAl⟩ := txs_open h.x
  have hxl := hn.x
  have bx : Below w.heap.size w (w.alloc (Obj.cells #[Value.slice a1 m.s.length cap1, .int .i64 m.c, .int .i64 m.n, Value.slice a2 m.x.length cap2, Value.slice a3 m.h.length cap3] 36)) := (Below.refl _ _).alloc (Nat.le_refl _) _
  have x0 : (w.alloc (Obj.cells #[Value.slice a1 m.s.length cap1, .int .i64 m.c, .int .i64 m.n, Value.slice a2 m.x.length cap2, Value.slice a3 m.h.length cap3] 36)).cell? ⟨w.heap.size, 0, none⟩ = some (.slice a1 m.s.length cap1) := by simp [go_sem]
  have x1 : (w.alloc (Obj.cells #[Value.slice a1 m.s.length cap1, .int .i64 m.c, .int .i64 m.n, Value.slice a2 m.x.length cap2, Value.slice a3 m.h.length cap3] 36)).cell? ⟨w.heap.size, 1, none⟩ = some (.int .i64 m.c) := by simp [go_sem]
  have x2 : (w.alloc (Obj.cells #[Value.slice a1 m.s.length cap1, .int .i64 m.c, .int .i64 m.n, Value.slice a2 m.x.length cap2, Value.slice a3 m.h.length cap3] 36)).cell? ⟨w.heap.size, 2, none⟩ = some (.int .i64 m.n) := by simp [go_sem]
  have x3 : (w.alloc (Obj.cells #[Value.slice a1 m.s.length cap1, .int .i64 m.c, .int .i64 m.n, Value.slice a2 m.x.length cap2, Value.slice a3 m.h.length cap3] 36)).cell? ⟨w.heap.size, 3, none⟩ = some (.slice a2 m.x.length cap2) := by simp [go_sem]
  have x4 : (w.alloc (Obj.cells #[Value.slice a1 m.s.length cap1, .int .i64 m.c, .int .i64 m.n, Value.slice a2 m.x.length cap2, Value.slice a3 m.h.length cap3] 36)).cell? ⟨w.heap.size, 4, none⟩ = some (.slice a3 m.h.length cap3) := by simp [go_sem]
  go_enter Tryz.func33, Tryz.ntmps33
  go_wp2_with fail
  have z0 : w.heap.size < (w.alloc (Obj.cells #[Value.slice a1 m.s.length cap1, .int .i64 m.c, .int .i64 m.n, Value.slice a2 m.x.length cap2, Value.slice a3 m.h.length cap3] 36)).heap.size := by simp
  generalize w.alloc (Obj.cells #[Value.slice a1 m.s.length cap1, .int .i64 m.c, .int .i64 m.n, Value.slice a2 m.x.length cap2, Value.slice a3 m.h.length cap3] 36) = W at *
  have TA : ∀ x, Below W.heap.size W x → Below w.heap.size w x ∧ x.cell? ⟨w.heap.size, 0, none⟩ = some (.slice a1 m.s.length cap1) ∧ x.cell? ⟨w.heap.size, 1, none⟩ = some (.int .i64 m.c) ∧ x.cell? ⟨w.heap.size, 2, none⟩ = some (.int .i64 m.n) ∧ x.cell? ⟨w.heap.size, 3, none⟩ = some (.slice a2 m.x.length cap2) ∧ x.cell? ⟨w.heap.size, 4, none⟩ = some (.slice a3 m.h.length cap3) := fun x hx => ⟨bx.trans (hx.mono bx.size), cell_stays hx x0, cell_stays hx x1, cell_stays hx x2, cell_stays hx x3, cell_stays hx x4⟩
  refine region_last (fun x => Below w.heap.size w x ∧ x.cell? ⟨w.heap.size, 0, none⟩ = some (.slice a1 m.s.length cap1) ∧ x.cell? ⟨w.heap.size, 1, none⟩ = some (.int .i64 m.c) ∧ x.cell? ⟨w.heap.size, 2, none⟩ = some (.int .i64 m.n) ∧ x.cell? ⟨w.heap.size, 3, none⟩ = some (.slice a2 m.x.length cap2) ∧ x.cell? ⟨w.heap.size, 4, none⟩ = some (.slice a3 m.h.length cap3)) (by kernel_rfl) (by kernel_rfl) (by kernel_rfl) (TA _ (Below.refl _ _).drew) (fun hHeld0 => ?_)
  simp only [List.dropLast, List.length_cons, List.length_nil, Nat.reduceAdd]
  refine takeL (i := 0) (v := ?_) rfl (by kernel_rfl) (by kernel_rfl) (by kernel_rfl) (fun _ _ _ h => h) rfl (by assumption) ?_ ?_
  rotate_left
  · (intro wS hSw; (try dsimp only at hSw); go_simp; try with_reducible rfl)
  (try simp only [Act.put, List.setIfInBounds_toArray, List.set_cons_zero, List.set_cons_succ])
  refine takeL (i := 1) (v := ?_) rfl (by kernel_rfl) (by kernel_rfl) (by kernel_rfl) (fun _ _ _ h => h) rfl (by assumption) ?_ ?_
  rotate_left
  · (intro wS hSw; (try dsimp only at hSw); go_simp; try with_reducible rfl)
  (try simp only [Act.put, List.setIfInBounds_toArray, List.set_cons_zero, List.set_cons_succ])
  refine takeL (i := 3) (v := ?_) rfl (by kernel_rfl) (by kernel_rfl) (by kernel_rfl) (fun _ _ _ h => h) rfl (by assumption) ?_ ?_
  rotate_left
  · (intro wS hSw; (try dsimp only at hSw); go_simp; try with_reducible rfl)
  (try simp only [Act.put, List.setIfInBounds_toArray, List.set_cons_zero, List.set_cons_succ])
  refine takeL (i := 4) (v := ?_) rfl (by kernel_rfl) (by kernel_rfl) (by kernel_rfl) (fun _ _ _ h => h) rfl (by assumption) ?_ ?_
  rotate_left
  · (intro wS hSw; (try dsimp only at hSw); go_simp; try with_reducible rfl)
  (try simp only [Act.put, List.setIfInBounds_toArray, List.set_cons_zero, List.set_cons_succ])
  refine takeL (i := 5) (v := ?_) rfl (by kernel_rfl) (by kernel_rfl) (by kernel_rfl) (fun _ _ _ h => h) rfl (by assumption) ?_ ?_
  rotate_left
  · (intro wS hSw; (try dsimp only at hSw); go_simp; try with_reducible rfl)
  (try simp only [Act.put, List.setIfInBounds_toArray, List.set_cons_zero, List.set_cons_succ])
  refine takeL (i := 6) (v := ?_) rfl (by kernel_rfl) (by kernel_rfl) (by kernel_rfl) (fun _ _ _ h => h) rfl (by assumption) ?_ ?_
  rotate_left
  · (intro wS hSw; (try dsimp only at hSw); go_simp; try with_reducible rfl)
  (try simp only [Act.put, List.setIfInBounds_toArray, List.set_cons_zero, List.set_cons_succ])
  refine takeL (i := 7) (v := ?_) rfl (by kernel_rfl) (by kernel_rfl) (by kernel_rfl) (fun _ _ _ h => h) rfl (by assumption) ?_ ?_
  rotate_left
  · (intro wS hSw; (try dsimp only at hSw); go_simp; try with_reducible rfl)
  (try simp only [Act.put, List.setIfInBounds_toArray, List.set_cons_zero, List.set_cons_succ])
  refine takeL (i := 8) (v := ?_) rfl (by kernel_rfl) (by kernel_rfl) (by kernel_rfl) (fun _ _ _ h => h) rfl (by assumption) ?_ ?_
  rotate_left
  · (intro wS hSw; (try dsimp only at hSw); go_simp; try with_reducible rfl)
  (try simp only [Act.put, List.setIfInBounds_toArray, List.set_cons_zero, List.set_cons_succ])
  refine takeL (i := 10) (v := ?_) rfl (by kernel_rfl) (by kernel_rfl) (by kernel_rfl) (fun _ _ _ h => h) rfl (by assumption) ?_ ?_
  rotate_left
  · (intro wS hSw; (try dsimp only at hSw); go_simp; try with_reducible rfl)
  (try simp only [Act.put, List.setIfInBounds_toArray, List.set_cons_zero, List.set_cons_succ])
  refine takeL (i := 11) (v := ?_) rfl (by kernel_rfl) (by kernel_rfl) (by kernel_rfl) (fun _ _ _ h => h) rfl (by assumption) ?_ ?_
  rotate_left
  · (intro wS hSw; (try dsimp only at hSw); go_simp; try with_reducible rfl)
  (try simp only [Act.put, List.setIfInBounds_toArray, List.set_cons_zero, List.set_cons_succ])
  refine stepL (i := 2) rfl (by kernel_rfl) (fun K hK => ?_)
  rw [if_pos (by rfl)]
  go_simp
  refine (copyStore_own _ m.s _ (h.s.stays (TA _ (Below.refl _ _).drew).1) hn.s).mono ?_
  rintro e w1 ⟨sb, Bs, rfl, ho1, hb1⟩
  have t1 : Below W.heap.size W w1 := (Below.refl _ _).drew.trans hb1
  refine hK.out _ _ (TA _ t1) (fun hHeld1 => ?_)
  clear hK K hHeld0
  (try simp only [Act.put, List.setIfInBounds_toArray, List.set_cons_zero, List.set_cons_succ])
  refine stepL (i := 9) rfl (by kernel_rfl) (fun K hK => ?_)
  rw [if_pos (by rfl)]
  go_simp
  refine (txs_new (A := A) (hcA.stays (TA _ t1).1) hn.x).mono ?_
  rintro e w2 ⟨rfl, ho2, hb2⟩
  have t2 : Below W.heap.size W w2 := t1.trans (hb2.mono t1.size)
  refine hK.out _ _ (TA _ t2) (fun hHeld2 => ?_)
  clear hK K hHeld1
  (try simp only [Act.put, List.setIfInBounds_toArray, List.set_cons_zero, List.set_cons_succ])
  refine stepL (i := 12) rfl (by kernel_rfl) (fun K hK => ?_)
  rw [if_pos (by rfl)]
  go_simp
  refine (evs_new (h.h.stays (TA _ t2).1) hn.h).mono ?_
  rintro e w3 ⟨rfl, ho3, hb3⟩
  have t3 : Below W.heap.size W w3 := t2.trans (hb3.mono t2.size)
  refine hK.out _ _ (TA _ t3) (fun hHeld3 => ?_)
  clear hK K hHeld2
  (try simp only [Act.put, List.setIfInBounds_toArray, List.set_cons_zero, List.set_cons_succ])
  have hbm := build_mgr (some ⟨sb, 0, none⟩) (some ⟨w1.heap.size, 0, none⟩) (some ⟨w2.heap.size, 0, none⟩) m.s.length m.s.length m.x.length m.x.length m.h.length m.h.length m.c m.n
  refine takeL (i := 13) (v := ?_) rfl (by kernel_rfl) (by kernel_rfl) (by kernel_rfl) (fun _ _ _ h => h) rfl (by assumption) ?_ ?_
  rotate_left
  · (intro wS hSw; (try dsimp only at hSw); go_simp; try with_reducible rfl)
  (try simp only [Act.put, List.setIfInBounds_toArray, List.set_cons_zero, List.set_cons_succ])
  refine stepL (i := 14) rfl (by kernel_rfl) (fun K hK => ?_)
  rw [if_pos (by rfl)]
  go_simp
  have bN := below_alM w3 (Obj.cells #[Value.slice (some ⟨sb, 0, none⟩) m.s.length m.s.length, .int .i64 m.c, .int .i64 m.n, Value.slice (some ⟨w1.heap.size, 0, none⟩) m.x.length m.x.length, Value.slice (some ⟨w2.heap.size, 0, none⟩) m.h.length m.h.length] 36)
  have t4 : Below W.heap.size W _ := t3.trans (bN.mono t3.size)
  refine hK.out _ _ (TA _ t4) (fun hHeld4 => ?_)
  clear hK K hHeld3
  (try simp only [Act.put, List.setIfInBounds_toArray, List.set_cons_zero, List.set_cons_succ])
  refine wpAnyH_done (by kernel_rfl) ?_ _
  refine lastL (n := 15) rfl rfl ?_
  go_simp
  clear hHeld4 hbm
  have z1 := hb1.size
  have z2 := hb2.size
  have z3 := hb3.size
  have zo2 := (owns_ltM ho2 rfl).2
  have zo3 := (owns_ltM ho3 rfl).2
  obtain ⟨q0, q1, q2, q3, q4, q5⟩ := TA _ t4
  obtain ⟨W4, hW4⟩ : ∃ x, x = w3.alloc (Obj.cells #[Value.slice (some ⟨sb, 0, none⟩) m.s.length m.s.length, .int .i64 m.c, .int .i64 m.n, Value.slice (some ⟨w1.heap.size, 0, none⟩) m.x.length m.x.length, Value.slice (some ⟨w2.heap.size, 0, none⟩) m.h.length m.h.length] 36) := ⟨_, rfl⟩
  have hbox : RowOf W4 w3.heap.size 36 5 (bxf (.slice (some ⟨sb, 0, none⟩) m.s.length m.s.length) m.c m.n (.slice (some ⟨w1.heap.size, 0, none⟩) m.x.length m.x.length) (.slice (some ⟨w2.heap.size, 0, none⟩) m.h.length m.h.length)) := by
    rw [hW4]
    refine ⟨_, Deep.blk_alloc_new _ _, by simp, fun j hj => ?_⟩
    match j, hj with
    | 0, _ => rfl
    | 1, _ => rfl
    | 2, _ => rfl
    | 3, _ => rfl
    | 4, _ => rfl
  have hzW4 : W4.heap.size = w3.heap.size + 1 := by rw [hW4]; simp
  rw [← hW4] at q0 q1 q2 q3 q4 q5 bN t4 ⊢
  clear hW4 x0 x1 x2 x3 x4 TA t4
  have hS : OwnT W.heap.size w1.heap.size W4 (.slice (some ⟨sb, 0, none⟩) m.s.length m.s.length) m.s := by
    have b13 : Below w1.heap.size w1 W4 := hb2.trans ((hb3.trans (bN.mono hb3.size)).mono hb2.size)
    have := ho1.stays b13
    exact .inr ⟨sb, Bs, _, rfl, this⟩
  have hX : W4.ownsRow w1.heap.size 97 3 (.slice (some ⟨w1.heap.size, 0, none⟩) m.x.length m.x.length) m.x.length (txf m.x A) := owns_keepM ho2 fun g hg hl => by
    have b23 : Below w2.heap.size w2 W4 := hb3.trans (bN.mono hb3.size)
    exact b23.block g hl
  have hH : W4.ownsRow w2.heap.size 101 6 (.slice (some ⟨w2.heap.size, 0, none⟩) m.h.length m.h.length) m.h.length (hexa m.h) := owns_keepM ho3 fun g hg hl => bN.block g hl
  clear ho1 ho2 ho3 hb1 hb2 hb3 t1 t2 t3 bN
  have z1 : W.heap.size ≤ w1.heap.size := z1
  generalize w1.heap.size = G2 at *
  generalize w2.heap.size = G3 at *
  generalize w3.heap.size = B at *
  generalize W.heap.size = S0 at *
  go_wp2
  go_loopw [24] (fun t wr => ∃ (k : Nat) (wv : Nat → Value), k ≤ m.x.length ∧ t = .int .i64 (k : Int) ∧ Below w.heap.size w wr ∧ B < wr.heap.size ∧ wr.cell? ⟨w.heap.size, 3, none⟩ = some (.slice a2 m.x.length cap2) ∧
      RowOf wr B 36 5 (bxf (.slice (some ⟨sb, 0, none⟩) m.s.length m.s.length) m.c m.n (.slice (some ⟨G2, 0, none⟩) m.x.length m.x.length) (.slice (some ⟨G3, 0, none⟩) m.h.length m.h.length)) ∧
      OwnT S0 G2 wr (.slice (some ⟨sb, 0, none⟩) m.s.length m.s.length) m.s ∧ wr.ownsRow G2 97 3 (.slice (some ⟨G2, 0, none⟩) m.x.length m.x.length) m.x.length (txm m.x A wv k) ∧
      wr.ownsRow G3 101 6 (.slice (some ⟨G3, 0, none⟩) m.h.length m.h.length) m.h.length (hexa m.h) ∧
      (∀ j, j < k → wr.ownsRow (B + 1) 111 3 (wv j) (tAt m.x j).w.length (flat (tAt m.x j).w)) ∧
      (∀ i j, i < k → j < k → i ≠ j → ∀ g, (wv i).ownBlock = some g → (wv j).ownBlock ≠ some g)) (fun t _ => m.x.length - (intOf t).toNat)
  case atStart => exact ⟨0, fun _ => .nilIface, Nat.zero_le _, rfl, q0, by omega, q4, hbox, hS, by rw [txm_zero]; exact hX, hH, fun j hj => absurd hj (Nat.not_lt_zero _), fun i j hi => absurd hi (Nat.not_lt_zero _)⟩
  case round =>
    rename World => wo
    clear q0 q1 q2 q3 q4 q5 hbox hS hX hH hzW4
    obtain ⟨k, wv, hk, rfl, hb, hBw, p3, hbox, hS, hX, hH, hWs, hap⟩ := hrel
    by_cases hlt : k < m.x.length
    · obtain ⟨hvk, hcellk⟩ := hAl k hlt
      obtain ⟨b, off, rfl, _⟩ := hcA (by omega)
      obtain ⟨c0, c1, c2⟩ := hcellk b off rfl
      replace c0 := cell_stays hb c0
      replace c1 := cell_stays hb c1
      replace c2 := cell_stays hb c2
      have hn2 := hn.w k hlt
      have i0 : (0 : Int) ≤ (k : Int) := by omega
      have i1 : (k : Int) < (m.x.length : Int) := by omega
      have bB := below_alM wo (Obj.cells #[.int .i64 (tAt m.x k).i, .int .i64 (tAt m.x k).s, Value.slice (A k).1 (tAt m.x k).w.length (A k).2] 97)
      have hvB := (hvk.stays hb).stays bB
      have y2 : (wo.alloc (Obj.cells #[.int .i64 (tAt m.x k).i, .int .i64 (tAt m.x k).s, Value.slice (A k).1 (tAt m.x k).w.length (A k).2] 97)).cell? ⟨wo.heap.size, 2, none⟩ = some (Value.slice (A k).1 (tAt m.x k).w.length (A k).2) := by simp [go_sem]
      have y3 := cell_stays bB (hbox.cell (show 3 < 5 by omega))
      have p3' := cell_stays bB p3
      have hwz : (wo.alloc (Obj.cells #[.int .i64 (tAt m.x k).i, .int .i64 (tAt m.x k).s, Value.slice (A k).1 (tAt m.x k).w.length (A k).2] 97)).heap.size = wo.heap.size + 1 := by simp
      have hbox1 := hbox.of_block (bB.block _ hbox.lt)
      have hS1 := hS.stays bB
      have hX1 := owns_keepM hX fun g hg hl => bB.block g hl
      have hH1 := owns_keepM hH fun g hg hl => bB.block g hl
      have hW1 := fun j (hj : j < k) => owns_keepM (hWs j hj) fun g hg hl => bB.block g hl
      have bb := hb.trans (bB.mono hb.size)
      simp only [bxf] at y3
      clear hcellk hbox hS hX hH
      go_wp2_with fail
      generalize wo.alloc (Obj.cells #[.int .i64 (tAt m.x k).i, .int .i64 (tAt m.x k).s, Value.slice (A k).1 (tAt m.x k).w.length (A k).2] 97) = W1 at *
      have TA : ∀ x, Below W1.heap.size W1 x → x.cell? ⟨B, 3, none⟩ = some (.slice (some ⟨G2, 0, none⟩) m.x.length m.x.length) ∧ x.cell? ⟨wo.heap.size, 2, none⟩ = some (Value.slice (A k).1 (tAt m.x k).w.length (A k).2) := fun x hx => ⟨cell_stays hx y3, cell_stays hx y2⟩
      refine region_last (fun x => x.cell? ⟨B, 3, none⟩ = some (.slice (some ⟨G2, 0, none⟩) m.x.length m.x.length) ∧ x.cell? ⟨wo.heap.size, 2, none⟩ = some (Value.slice (A k).1 (tAt m.x k).w.length (A k).2)) (by kernel_rfl) (by kernel_rfl) (by kernel_rfl) (TA _ (Below.refl _ _).drew) (fun hHeld0 => ?_)
      simp only [List.dropLast, List.length_cons, List.length_nil, Nat.reduceAdd]
      refine takeL (i := 0) (v := ?_) rfl (by kernel_rfl) (by kernel_rfl) (by kernel_rfl) (fun _ _ _ h => h) rfl (by assumption) ?_ ?_
      rotate_left
      · (intro wS hSw; (try dsimp only at hSw); go_simp; try with_reducible rfl)
      (try simp only [Act.put, List.setIfInBounds_toArray, List.set_cons_zero, List.set_cons_succ])
      refine takeL (i := 1) (v := ?_) rfl (by kernel_rfl) (by kernel_rfl) (by kernel_rfl) (fun _ _ _ h => h) rfl (by assumption) ?_ ?_
      rotate_left
      · (intro wS hSw; (try dsimp only at hSw); go_simp; try with_reducible rfl)
      (try simp only [Act.put, List.setIfInBounds_toArray, List.set_cons_zero, List.set_cons_succ])
      refine takeL (i := 2) (v := ?_) rfl (by kernel_rfl) (by kernel_rfl) (by kernel_rfl) (fun _ _ _ h => h) rfl (by assumption) ?_ ?_
      rotate_left
      · (intro wS hSw; (try dsimp only at hSw); go_simp; try with_reducible rfl)
      (try simp only [Act.put, List.setIfInBounds_toArray, List.set_cons_zero, List.set_cons_succ])
      refine takeL (i := 3) (v := ?_) rfl (by kernel_rfl) (by kernel_rfl) (by kernel_rfl) (fun _ _ _ h => h) rfl (by assumption) ?_ ?_
      rotate_left
      · (intro wS hSw; (try dsimp only at hSw); go_simp; try with_reducible rfl)
      (try simp only [Act.put, List.setIfInBounds_toArray, List.set_cons_zero, List.set_cons_succ])
      refine takeL (i := 4) (v := ?_) rfl (by kernel_rfl) (by kernel_rfl) (by kernel_rfl) (fun _ _ _ h => h) rfl (by assumption) ?_ ?_
      rotate_left
      · (intro wS hSw; (try dsimp only at hSw); go_simp; try with_reducible rfl)
      (try simp only [Act.put, List.setIfInBounds_toArray, List.set_cons_zero, List.set_cons_succ])
      refine takeL (i := 5) (v := ?_) rfl (by kernel_rfl) (by kernel_rfl) (by kernel_rfl) (fun _ _ _ h => h) rfl (by assumption) ?_ ?_
      rotate_left
      · (intro wS hSw; (try dsimp only at hSw); go_simp; try with_reducible rfl)
      (try simp only [Act.put, List.setIfInBounds_toArray, List.set_cons_zero, List.set_cons_succ])
      refine takeL (i := 6) (v := ?_) rfl (by kernel_rfl) (by kernel_rfl) (by kernel_rfl) (fun _ _ _ h => h) rfl (by assumption) ?_ ?_
      rotate_left
      · (intro wS hSw; (try dsimp only at hSw); go_simp; try with_reducible rfl)
      (try simp only [Act.put, List.setIfInBounds_toArray, List.set_cons_zero, List.set_cons_succ])
      refine stepL (i := 7) rfl (by kernel_rfl) (fun K hK => ?_)
      rw [if_pos (by rfl)]
      go_simp
      refine (rows_new (hvB.stays (Below.refl _ _).drew) hn2).mono ?_
      rintro e w2 ⟨rfl, ho2, hb2⟩
      have t2 : Below W1.heap.size W1 w2 := (Below.refl _ _).drew.trans hb2
      refine hK.out _ _ (TA _ t2) (fun hHeld1 => ?_)
      clear hK K hHeld0
      (try simp only [Act.put, List.setIfInBounds_toArray, List.set_cons_zero, List.set_cons_succ])
      refine takeL (i := 8) (v := ?_) rfl (by kernel_rfl) (by kernel_rfl) (by kernel_rfl) (fun _ _ _ h => h) rfl (by assumption) ?_ ?_
      rotate_left
      · (intro wS hSw; (try dsimp only at hSw); go_simp; try with_reducible rfl)
      (try simp only [Act.put, List.setIfInBounds_toArray, List.set_cons_zero, List.set_cons_succ])
      refine takeL (i := 9) (v := ?_) rfl (by kernel_rfl) (by kernel_rfl) (by kernel_rfl) (fun _ _ _ h => h) rfl (by assumption) ?_ ?_
      rotate_left
      · (intro wS hSw; (try dsimp only at hSw); go_simp; try with_reducible rfl)
      (try simp only [Act.put, List.setIfInBounds_toArray, List.set_cons_zero, List.set_cons_succ])
      have zW1 : W1.heap.size = wo.heap.size + 1 := hwz
      have hX2 := owns_keepM hX1 fun g hg hl => t2.block g hl
      obtain ⟨g', eg, _, u2, uf⟩ := owns_cell hX2 (tri_get (fun i => Value.int IntKind.i64 (tAt m.x i).i) (fun i => Value.int IntKind.i64 (tAt m.x i).s) (fun i => if i < k then wv i else .slice (A i).1 (tAt m.x i).w.length (A i).2) m.x.length k hlt).2.2
      injection eg with eg
      injection eg with eg
      subst eg
      refine wpAnyH_done (by kernel_rfl) ?_ _
      refine lastL (n := 10) rfl rfl ?_
      go_simp
      have hX3 := owns_set hX2 (k * 3 + 2) (.slice (some ⟨wo.heap.size + 1, 0, none⟩) (tAt m.x k).w.length (tAt m.x k).w.length) (by omega)
      have hX4 := txm_step m.x A wv hlt (.slice (some ⟨wo.heap.size + 1, 0, none⟩) (tAt m.x k).w.length (tAt m.x k).w.length)
      simp only [txm] at hX3 hX4
      rw [hX4] at hX3
      clear hX1 hX2 hX4 u2 uf TA y2 y3 hvB hvk c0 c1 c2 hHeld1
      have z21 := t2.size
      have hkeep : ∀ q, q ≠ G2 → q < W1.heap.size → (w2.setCell ⟨G2, k * 3 + 2, none⟩ (.slice (some ⟨wo.heap.size + 1, 0, none⟩) (tAt m.x k).w.length (tAt m.x k).w.length)).heap[q]? = W1.heap[q]? := fun q h1 h2 => (Below.heap_setCell _ _ _ _ h1).trans (t2.block q h2)
      have ho2 : w2.ownsRow (wo.heap.size + 1) 111 3 (.slice (some ⟨wo.heap.size + 1, 0, none⟩) (tAt m.x k).w.length (tAt m.x k).w.length) (tAt m.x k).w.length (flat (tAt m.x k).w) := by rw [← zW1]; exact ho2
      have hnew := owns_keepM (w' := w2.setCell ⟨G2, k * 3 + 2, none⟩ (.slice (some ⟨wo.heap.size + 1, 0, none⟩) (tAt m.x k).w.length (tAt m.x k).w.length)) ho2 fun g hg hl => Below.heap_setCell _ _ _ _ (by
        have : g = wo.heap.size + 1 := by simpa [Value.ownBlock] using hg.symm
        show g ≠ G2
        omega)
      have bb2 := (bb.trans (t2.mono bb.size)).setCell (p := ⟨G2, k * 3 + 2, none⟩) (by show w.heap.size ≤ G2; omega) (.slice (some ⟨wo.heap.size + 1, 0, none⟩) (tAt m.x k).w.length (tAt m.x k).w.length)
      have hbox2 := hbox1.of_block (hkeep _ (by omega) hbox1.lt)
      have hS2 := hS1.keep fun q _ h2 h3 => hkeep q (by omega) h3
      have hH2 := owns_keepM hH1 fun g hg hl => hkeep g (by have := (owns_ltM hH1 hg).1; omega) hl
      have hW2 := fun j (hj : j < k) => owns_keepM (hW1 j hj) fun g hg hl => hkeep g (by have := (owns_ltM (hW1 j hj) hg).1; omega) hl
      have hp2 := cell_same (hkeep w.heap.size (by omega) (cell_lt p3')) p3'
      have hsz : B < (w2.setCell ⟨G2, k * 3 + 2, none⟩ (.slice (some ⟨wo.heap.size + 1, 0, none⟩) (tAt m.x k).w.length (tAt m.x k).w.length)).heap.size := by rw [size_setCell]; omega
      have hwb : ∀ j, j < k → ∀ g, (wv j).ownBlock = some g → g < wo.heap.size := fun j hj g hg => (owns_ltM (hWs j hj) hg).2
      clear hkeep hbox1 hS1 hH1 hW1 p3' t2 hb2 ho2 bb hWs
      go_wp2
      go_roundw
      case rel =>
        refine ⟨k + 1, _, by omega, by go_num, bb2, hsz, hp2, hbox2, hS2, hX3, hH2, fun j hj => ?_, fun i j hi hj hij g hg => ?_⟩
        · by_cases e : j = k
          · subst e
            simp only [if_true]
            exact World.ownsRow.mono hnew (by omega)
          · simp only [if_neg e]
            exact hW2 j (by omega)
        · by_cases e : i = k
          · have ej : j ≠ k := fun h => hij (e.trans h.symm)
            simp only [if_pos e] at hg
            simp only [if_neg ej]
            intro hc
            have h1 := hwb j (by omega) g hc
            have h2 : g = wo.heap.size + 1 := by simpa [Value.ownBlock] using hg.symm
            omega
          · simp only [if_neg e] at hg
            by_cases ej : j = k
            · simp only [if_pos ej]
              intro hc
              have h1 := hwb i (by omega) g hg
              have h2 : g = wo.heap.size + 1 := by simpa [Value.ownBlock] using hc.symm
              omega
            · simp only [if_neg ej]
              exact hap i j (by omega) (by omega) hij g hg
      case measure => simp [intOf]; omega
    · obtain rfl : k = m.x.length := by omega
      rw [txm_all] at hX
      go_wp2
      go_ret
      refine ⟨B, S0, G2, _, _, _, wv, rfl, ⟨⟨hS, ⟨by omega, by omega, by omega⟩, ?_, fun i hi => ?_, ?_, ?_, ?_⟩, hbox, by omega, .inr (by omega), ?_⟩, hb⟩
      · exact World.ownsRow.mono hX (by omega)
      · exact World.ownsRow.mono (hWs i hi) (by omega)
      · exact World.ownsRow.mono hH (by omega)
      · intro a ha g hg
        match a, ha with
        | 0, _ =>
          have h2 : g = G2 := by simpa [mv, Value.ownBlock] using hg.symm
          exact .inr (by omega)
        | 1, _ =>
          have h2 : g = G3 := by simpa [mv, Value.ownBlock] using hg.symm
          exact .inr (by omega)
        | i + 2, hi =>
          have h2 := (owns_ltM (hWs i (by omega)) hg).1
          exact .inr (by omega)
      · intro a b ha hb' hab g hg hg'
        match a, b, ha, hb' with
        | 0, 0, _, _ => exact hab rfl
        | 1, 1, _, _ => exact hab rfl
        | 0, 1, _, _ =>
          have h2 : g = G2 := by simpa [mv, Value.ownBlock] using hg.symm
          have h3 : g = G3 := by simpa [mv, Value.ownBlock] using hg'.symm
          omega
        | 1, 0, _, _ =>
          have h2 : g = G3 := by simpa [mv, Value.ownBlock] using hg.symm
          have h3 : g = G2 := by simpa [mv, Value.ownBlock] using hg'.symm
          omega
        | 0, i + 2, _, hi =>
          have h2 : g = G2 := by simpa [mv, Value.ownBlock] using hg.symm
          have h3 := (owns_ltM (hWs i (by omega)) hg').1
          omega
        | 1, i + 2, _, hi =>
          have h2 : g = G3 := by simpa [mv, Value.ownBlock] using hg.symm
          have h3 := (owns_ltM (hWs i (by omega)) hg').1
          omega
        | i + 2, 0, hi, _ =>
          have h2 : g = G2 := by simpa [mv, Value.ownBlock] using hg'.symm
          have h3 := (owns_ltM (hWs i (by omega)) hg).1
          omega
        | i + 2, 1, hi, _ =>
          have h2 : g = G3 := by simpa [mv, Value.ownBlock] using hg'.symm
          have h3 := (owns_ltM (hWs i (by omega)) hg).1
          omega
        | i + 2, j + 2, hi, hj => exact hap i j (by omega) (by omega) (fun e => hab (by rw [e])) g hg hg'
      · intro a ha hg
        match a, ha with
        | 0, _ =>
          have h2 : B = G2 := by simpa [mv, Value.ownBlock] using hg.symm
          omega
        | 1, _ =>
          have h2 : B = G3 := by simpa [mv, Value.ownBlock] using hg.symm
          omega
        | i + 2, hi =>
          have h2 := (owns_ltM (hWs i (by omega)) hg).1
          omega

end Go.Proofs.YtmecbppblbmchaaGreatDoor
