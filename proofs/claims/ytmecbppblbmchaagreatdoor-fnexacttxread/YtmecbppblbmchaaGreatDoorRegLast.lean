import Derived.Test.YtmecbppblbmchaaGreatDoorCopyM
import Derived.Deep.RegionLaw
import Derived.Test.YtmecbppblbmchaaGreatDoorMOk2
import Derived.Deep.RegionHeld3
import Derived.Deep.AppendLies
/- impl.copyStore: a copy of a store that is owned. -/
namespace Go.Proofs.YtmecbppblbmchaaGreatDoor
open Go.ChangeShapes Go.WideShapes Go.ChangeAt Go.RowKit Go.Maps Go.Sort
set_option linter.unusedVariables false
set_option maxRecDepth 100000
attribute [local go_sem ↓] Go.wp_at_zero Go.wp_at_succ

/-- n elements of three cells. -/
def tri (n : Nat) (f g h : Nat → Value) : List Value := (List.range n).flatMap fun i => [f i, g i, h i]
theorem tri_length (n : Nat) (f g h : Nat → Value) : (tri n f g h).length = n * 3 := by
  induction n with
  | zero => rfl
  | succ n ih => rw [tri, List.range_succ, List.flatMap_append, List.length_append, ← tri, ih]; simp; omega
theorem tri_get (f g h : Nat → Value) : ∀ (n i : Nat), i < n → (tri n f g h)[i * 3]? = some (f i) ∧ (tri n f g h)[i * 3 + 1]? = some (g i) ∧ (tri n f g h)[i * 3 + 2]? = some (h i)
  | 0, i, hi => absurd hi (Nat.not_lt_zero _)
  | n + 1, i, hi => by
    have e : tri (n + 1) f g h = tri n f g h ++ [f n, g n, h n] := by simp [tri, List.range_succ]
    have hl := tri_length n f g h
    rw [e]
    by_cases hn : i = n
    · subst hn
      refine ⟨?_, ?_, ?_⟩ <;> rw [List.getElem?_append_right (by omega)] <;> simp [hl]
    · obtain ⟨g1, g2, g3⟩ := tri_get f g h n i (by omega)
      refine ⟨?_, ?_, ?_⟩ <;> rw [List.getElem?_append_left (by omega)]
      · exact g1
      · exact g2
      · exact g3
theorem tri_one {n : Nat} {f g h : Nat → Value} (h1 : ∀ i, i < n → (f i).oneCell' = true ∧ (g i).oneCell' = true ∧ (h i).oneCell' = true) : ∀ v ∈ tri n f g h, v.oneCell' = true := fun v hv => by
  obtain ⟨i, hi, hm⟩ := List.mem_flatMap.1 hv
  obtain ⟨a, b, c⟩ := h1 i (List.mem_range.1 hi)
  simp at hm
  rcases hm with rfl | rfl | rfl
  · exact a
  · exact b
  · exact c
theorem tri_cells {w : World} {b off n : Nat} {f g h : Nat → Value} (hc : ∀ i, i < n → w.cell? ⟨b, off + i * 3, none⟩ = some (f i) ∧ w.cell? ⟨b, off + i * 3 + 1, none⟩ = some (g i) ∧ w.cell? ⟨b, off + i * 3 + 2, none⟩ = some (h i)) : ∀ j v, (tri n f g h)[j]? = some v → w.cell? ⟨b, off + j, none⟩ = some v := fun j v hj => by
  have hjl : j < n * 3 := by rw [← tri_length n f g h]; exact (List.getElem?_eq_some_iff.1 hj).1
  obtain ⟨g1, g2, g3⟩ := tri_get f g h n (j / 3) (by omega)
  obtain ⟨k1, k2, k3⟩ := hc (j / 3) (by omega)
  have h3 : j % 3 = 0 ∨ j % 3 = 1 ∨ j % 3 = 2 := by omega
  rcases h3 with e | e | e
  · rw [show j = j / 3 * 3 by omega] at hj ⊢
    rw [g1] at hj
    cases hj
    exact k1
  · rw [show j = j / 3 * 3 + 1 by omega] at hj ⊢
    rw [g2] at hj
    cases hj
    exact k2
  · rw [show j = j / 3 * 3 + 2 by omega] at hj ⊢
    rw [g3] at hj
    cases hj
    exact k3

theorem RowOf.of_cells {w : World} {b : Nat} {T : TypeId} {cs : List Value} (h : w.heap[b]? = some (.cells cs.toArray T (0, 0))) : RowOf w b T cs.length (fun j => cs.getD j undef) :=
  ⟨cs.toArray, h, by simp, fun j hj => by simp [List.getD, List.getElem?_eq_getElem hj]⟩

theorem below_al (w : World) (o : Obj) : Below w.heap.size w (w.alloc o) := (Below.refl _ _).alloc (Nat.le_refl _) _

theorem choose_cells {w : World} {b off : Nat} {l : List Ch} {lo hi : Nat} (hcc : ∀ i, i < l.length → w.cell? ⟨b, off + i * 3, none⟩ = some (.int .i64 (cAt l i).t) ∧ w.cell? ⟨b, off + i * 3 + 1, none⟩ = some (.int .i64 (cAt l i).r) ∧ ∃ a c, w.cell? ⟨b, off + i * 3 + 1 + 1, none⟩ = some (.slice a (cAt l i).l.length c) ∧ VersAt lo hi w (.slice a (cAt l i).l.length c) (cAt l i).l) :
    ∃ A : Nat → Option Addr × Nat, ∀ i, i < l.length → w.cell? ⟨b, off + i * 3, none⟩ = some (.int .i64 (cAt l i).t) ∧ w.cell? ⟨b, off + i * 3 + 1, none⟩ = some (.int .i64 (cAt l i).r) ∧ w.cell? ⟨b, off + i * 3 + 2, none⟩ = some (.slice (A i).1 (cAt l i).l.length (A i).2) ∧ VersAt lo hi w (.slice (A i).1 (cAt l i).l.length (A i).2) (cAt l i).l := by
  have key : ∀ i, ∃ q : Option Addr × Nat, i < l.length → w.cell? ⟨b, off + i * 3, none⟩ = some (.int .i64 (cAt l i).t) ∧ w.cell? ⟨b, off + i * 3 + 1, none⟩ = some (.int .i64 (cAt l i).r) ∧ w.cell? ⟨b, off + i * 3 + 2, none⟩ = some (.slice q.1 (cAt l i).l.length q.2) ∧ VersAt lo hi w (.slice q.1 (cAt l i).l.length q.2) (cAt l i).l := fun i => by
    by_cases hi : i < l.length
    · obtain ⟨c0, c1, a, c, c2, c3⟩ := hcc i hi
      exact ⟨(a, c), fun _ => ⟨c0, c1, c2, c3⟩⟩
    · exact ⟨(none, 0), fun h => absurd h hi⟩
  exact ⟨fun i => Classical.choose (key i), fun i hi => Classical.choose_spec (key i) hi⟩

theorem vers_block {lo hi : Nat} {w : World} {a : Option Addr} {cap : Nat} {l : List Vr} (h : VersAt lo hi w (.slice a l.length cap) l) (hn : l.length ≤ 1048576) :
    Calls Tryz.prog 104 #[.slice a l.length cap] w fun e w' => e = .returned (.slice (some ⟨w.heap.size, 0, none⟩) l.length l.length) ∧ OwnV w' w.heap.size l ∧ Below w.heap.size w w' := by
  refine (copyVers_block a l.length cap (vcells l) w hn (vcells_length l) (vcells_one l) h.cells).mono ?_
  rintro e w' ⟨rfl, hB, hb⟩
  have hr := RowOf.of_cells hB
  rw [vcells_length] at hr
  refine ⟨rfl, ⟨_, hr, fun i hi => ?_⟩, hb⟩
  obtain ⟨g1, g2⟩ := vcells_get l i hi
  simp [List.getD, g1, g2]

set_option maxHeartbeats 2000000 in
theorem copyStore_own (v : Value) (l : List Ch) (w : World) {lo hi : Nat} (h : ChainsAt lo hi w v l) (hn : Small l) :
    Calls Tryz.prog 65 #[.agg #[v]] w fun e w' => ∃ b Bs, e = .returned (.agg #[.slice (some ⟨b, 0, none⟩) l.length l.length]) ∧ OwnC w.heap.size w'.heap.size w' b Bs l ∧ Below w.heap.size w w' := by
  obtain ⟨a, cap, rfl, hm, hc⟩ := h
  have hn1 := hn.1
  have hA : Below w.heap.size w ((w.alloc (Obj.cells #[Value.slice a l.length cap] 32)).alloc (Obj.cells #[Value.slice none 0 0] 32)) := ((Below.refl _ _).alloc (Nat.le_refl _) _).alloc (by simp) _
  obtain ⟨A, hcA, hAl⟩ : ∃ A : Nat → Option Addr × Nat, CellsAt w a l.length (tri l.length (fun i => .int .i64 (cAt l i).t) (fun i => .int .i64 (cAt l i).r) (fun i => .slice (A i).1 (cAt l i).l.length (A i).2)) ∧ ∀ i, i < l.length → VersAt lo hi w (.slice (A i).1 (cAt l i).l.length (A i).2) (cAt l i).l ∧ ∀ b off, a = some ⟨b, off, none⟩ → w.cell? ⟨b, off + i * 3, none⟩ = some (.int .i64 (cAt l i).t) ∧ w.cell? ⟨b, off + i * 3 + 1, none⟩ = some (.int .i64 (cAt l i).r) ∧ w.cell? ⟨b, off + i * 3 + 1 + 1, none⟩ = some (.slice (A i).1 (cAt l i).l.length (A i).2) := by
    by_cases hp : 0 < l.length
    · obtain ⟨b, off, rfl, _, _, hcc⟩ := hc hp
      obtain ⟨A, hAA⟩ := choose_cells hcc
      refine ⟨A, fun _ => ⟨b, off, rfl, tri_cells fun i hi => ⟨(hAA i hi).1, (hAA i hi).2.1, (hAA i hi).2.2.1⟩⟩, fun i hi => ⟨(hAA i hi).2.2.2, fun b' off' e => ?_⟩⟩
      injection e with e
      injection e with e1 e2
      subst e1 e2
      exact ⟨(hAA i hi).1, (hAA i hi).2.1, (hAA i hi).2.2.1⟩
    · exact ⟨fun _ => (none, 0), fun h => absurd h hp, fun i hi => absurd hi (by omega)⟩
  clear hc
  go_enter Tryz.func65, Tryz.ntmps65
  go_wp2_with fail
  refine (copyChain_block a l.length cap _ _ hn1 (tri_length _ _ _ _) (tri_one fun i hi => ⟨rfl, rfl, rfl⟩) (hcA.stays hA)).mono ?_
  rintro e w1 ⟨rfl, hB1, hb1⟩
  simp only [World.size_alloc] at hB1
  have b1 := hA.trans (hb1.mono hA.size)
  have p0 : w1.cell? ⟨w.heap.size, 0, none⟩ = some (.slice a l.length cap) := cell_stays hb1 (by simp [go_sem])
  have p1 : w1.cell? ⟨w.heap.size + 1, 0, none⟩ = some (.slice none 0 0) := cell_stays hb1 (by simp [go_sem])
  have q1 : w1.frozen? ⟨w.heap.size + 1, 0, none⟩ = false := by rw [hb1.frozen (by simp)]; simp [go_sem]
  have hr1 := RowOf.of_cells hB1
  rw [tri_length] at hr1
  have z1 := hr1.lt
  have bA := below_al w1 (Obj.cells #[Value.slice (some ⟨w.heap.size + 1 + 1, 0, none⟩) l.length l.length] 32)
  have b2 := b1.trans (bA.mono b1.size)
  have p2 : (w1.alloc (Obj.cells #[Value.slice (some ⟨w.heap.size + 1 + 1, 0, none⟩) l.length l.length] 32)).cell? ⟨w1.heap.size, 0, none⟩ = some (.slice (some ⟨w.heap.size + 1 + 1, 0, none⟩) l.length l.length) := by simp [go_sem]
  have hr2 := hr1.of_block (bA.block _ hr1.lt)
  replace p0 := cell_stays bA p0
  replace p1 := cell_stays bA p1
  have q2 : (w1.alloc (Obj.cells #[Value.slice (some ⟨w.heap.size + 1 + 1, 0, none⟩) l.length l.length] 32)).frozen? ⟨w.heap.size + 1, 0, none⟩ = false := by rw [bA.frozen (show w.heap.size + 1 < w1.heap.size by omega)]; exact q1
  go_wp2
  go_loopw [13] (fun i wr => ∃ (k : Nat) (f : Nat → Value) (Bs : Nat → Nat), k ≤ l.length ∧ i = .int .i64 k ∧ Below w.heap.size w wr ∧ w1.heap.size < wr.heap.size ∧ wr.cell? ⟨w.heap.size + 1, 0, none⟩ = some (.slice none 0 0) ∧ wr.frozen? ⟨w.heap.size + 1, 0, none⟩ = false ∧ wr.cell? ⟨w1.heap.size, 0, none⟩ = some (.slice (some ⟨w.heap.size + 1 + 1, 0, none⟩) l.length l.length) ∧ RowOf wr (w.heap.size + 1 + 1) 94 (l.length * 3) f ∧
      (∀ j, j < l.length → f (j * 3) = .int .i64 (cAt l j).t ∧ f (j * 3 + 1) = .int .i64 (cAt l j).r) ∧ (∀ j, j < k → f (j * 3 + 2) = .slice (some ⟨Bs j, 0, none⟩) (cAt l j).l.length (cAt l j).l.length ∧ OwnV wr (Bs j) (cAt l j).l ∧ w1.heap.size < Bs j) ∧ ∀ i j, i < j → j < k → Bs i < Bs j) (fun i _ => l.length - (intOf i).toNat)
  case atStart =>
    refine ⟨0, _, fun _ => 0, Nat.zero_le _, rfl, b2, by simp, p1, q2, p2, hr2, fun j hj => ?_, fun j hj => absurd hj (Nat.not_lt_zero _), fun i j _ hj => absurd hj (Nat.not_lt_zero _)⟩
    obtain ⟨g1, g2, g3⟩ := tri_get (fun i => Value.int IntKind.i64 (cAt l i).t) (fun i => Value.int IntKind.i64 (cAt l i).r) (fun i => Value.slice (A i).1 (cAt l i).l.length (A i).2) l.length j hj
    simp only [List.getD, g1, g2, Option.getD_some]
    exact ⟨trivial, trivial⟩
  case round =>
    rename World => wo
    clear hr2 hr1 hB1 p0 p1 p2 q1 q2 b2 bA hb1
    obtain ⟨k, f, Bs, hk, rfl, hb, hz, p1, q1, p2, hrow, hf0, hf, hup⟩ := hrel
    by_cases hlt : k < l.length
    · obtain ⟨hvk, hcellk⟩ := hAl k hlt
      obtain ⟨b, off, rfl, _⟩ := hcA (by omega)
      obtain ⟨c0, c1, c2⟩ := hcellk b off rfl
      replace c0 := cell_stays hb c0
      replace c1 := cell_stays hb c1
      replace c2 := cell_stays hb c2
      have hn2 := hn.2 k hlt
      have i0 : (0 : Int) ≤ (k : Int) := by omega
      have i1 : (k : Int) < (l.length : Int) := by omega
      have bB := below_al wo (Obj.cells #[Value.int IntKind.i64 (cAt l k).t, Value.int IntKind.i64 (cAt l k).r, Value.slice (A k).1 (cAt l k).l.length (A k).2] 94)
      have hvB := (hvk.stays hb).stays bB
      have s0 : (wo.alloc (Obj.cells #[Value.int IntKind.i64 (cAt l k).t, Value.int IntKind.i64 (cAt l k).r, Value.slice (A k).1 (cAt l k).l.length (A k).2] 94)).drew.cell? ⟨wo.heap.size, 2, none⟩ = some (.slice (A k).1 (cAt l k).l.length (A k).2) := by simp [go_sem]
      have s1 : (wo.alloc (Obj.cells #[Value.int IntKind.i64 (cAt l k).t, Value.int IntKind.i64 (cAt l k).r, Value.slice (A k).1 (cAt l k).l.length (A k).2] 94)).drew.cell? ⟨w1.heap.size, 0, none⟩ = some (.slice (some ⟨w.heap.size + 1 + 1, 0, none⟩) l.length l.length) := cell_stays bB.drew p2
      clear hcellk hAl hcA
      go_wp2_with fail
      go_region_law (rw [if_pos (by rfl)]; go_simp; go_at_call 104; refine (vers_block (hvB.stays (Below.refl _ _).drew) hn2).mono ?_; rintro e w4 ⟨rfl, hV4, hb4⟩; have bb4 : Below wo.heap.size wo w4 := bB.drew.trans (hb4.mono (by show wo.heap.size ≤ (wo.alloc _).heap.size; simp)); have t1 := cell_stays bb4 p2; have r4 := hrow.of_block (bb4.block _ hrow.lt); have u0 := r4.cell (show k * 3 + 2 < l.length * 3 by omega); have u1 := r4.frozen (k * 3 + 2); simp only [])
      all_goals (
        have zz : wo.heap.size ≤ w4.heap.size := bb4.size
        have z4 : wo.heap.size + 1 ≤ w4.heap.size := by have := hb4.size; change (wo.alloc _).heap.size ≤ _ at this; simpa using this
        have hzB := hrow.lt
        go_wp2
        go_roundw
        case rel =>
          refine ⟨k + 1, _, upd Bs k (wo.heap.size + 1), by omega, by go_num, (hb.trans (bb4.mono hb.size)).setCell (by simp; omega) _, by simp only [size_setCell]; omega, ?_, ?_, ?_, r4.set _ _, fun j hj => ?_, fun j hj => ?_, fun i j hij hj => ?_⟩
          · exact cell_same (Below.heap_setCell _ _ _ _ (show w.heap.size + 1 ≠ w.heap.size + 1 + 1 by omega)) (cell_stays bb4 p1)
          · rw [World.frozen?_of_block (w := w4) (a := ⟨w.heap.size + 1, 0, none⟩) (Below.heap_setCell _ _ _ _ (show w.heap.size + 1 ≠ w.heap.size + 1 + 1 by omega)), bb4.frozen (cell_lt p1)]; exact q1
          · exact cell_same (Below.heap_setCell _ _ _ _ (show w1.heap.size ≠ w.heap.size + 1 + 1 by omega)) t1
          · rw [if_neg (by omega), if_neg (by omega)]; exact hf0 j hj
          · have hs : ∀ x v', w.heap.size + 1 + 1 < x → (w4.setCell ⟨w.heap.size + 1 + 1, k * 3 + 2, none⟩ v').heap[x]? = w4.heap[x]? := fun x v' hx => Below.heap_setCell _ _ _ _ (show x ≠ w.heap.size + 1 + 1 by omega)
            by_cases e : j = k
            · subst e
              exact ⟨by simp [upd_same], by rw [upd_same]; exact (show OwnV w4 (wo.heap.size + 1) _ by have := hV4; change OwnV w4 (wo.alloc _).heap.size _ at this; simpa using this).of_block (hs _ _ (by omega)), by rw [upd_same]; omega⟩
            · obtain ⟨g1, g2, g3⟩ := hf j (by omega)
              exact ⟨by rw [if_neg (by omega), upd_other _ e]; exact g1, by rw [upd_other _ e]; exact (g2.of_block (bb4.block _ g2.lt)).of_block (hs _ _ (by omega)), by rw [upd_other _ e]; exact g3⟩
          · by_cases e : j = k
            · have := (hf i (by omega)).2.1.lt
              rw [e, upd_same, upd_other _ (by omega)]; omega
            · rw [upd_other _ e, upd_other _ (by omega)]; exact hup i j hij (by omega)
        case measure => simp [intOf]; omega)
    · obtain rfl : k = l.length := by omega
      clear hAl hcA
      have hzB := hrow.lt
      go_wp2
      refine bodyPost_ret (v := .agg #[.slice (some ⟨w.heap.size + 1 + 1, 0, none⟩) l.length l.length]) (by simp [results, Tryz.results65, go_sem, p1]) rfl ⟨w.heap.size + 1 + 1, Bs, rfl, ?_, hb.setCell (by simp) _⟩
      have hs : ∀ x v', w.heap.size + 1 < x → (wo.setCell ⟨w.heap.size + 1, 0, none⟩ v').heap[x]? = wo.heap[x]? := fun x v' hx => Below.heap_setCell _ _ _ _ (show x ≠ w.heap.size + 1 by omega)
      refine ⟨by omega, by simp only [size_setCell]; exact hzB, f, hrow.of_block (hs _ _ (by omega)), fun i hi => ?_, fun i j hij hj => by have := hup i j hij hj; omega⟩
      obtain ⟨g1, g2, g3⟩ := hf i hi
      obtain ⟨k1, k2⟩ := hf0 i hi
      have := g2.lt
      exact ⟨k1, k2, ⟨_, Nat.le_refl _, g1⟩, g2.of_block (hs _ _ (by omega)), by omega, by simp only [size_setCell]; exact g2.lt, by omega⟩

end Go.Proofs.YtmecbppblbmchaaGreatDoor

/- impl.copyMgr: a copy of the whole that is owned, behind a pointer. -/
namespace Go.Proofs.YtmecbppblbmchaaGreatDoor
open Go.ChangeShapes Go.WideShapes Go.ChangeAt Go.RowKit Go.Maps Go.Sort
set_option linter.unusedVariables false
set_option maxRecDepth 100000
attribute [local go_sem ↓] Go.wp_at_zero Go.wp_at_succ

/-- n elements of six cells. -/
def hexa (l : List Ed) : List Value := l.flatMap fun x => [.int .i64 x.k, .int .i64 x.x, .int .i64 x.t, .int .i64 x.r, .int .i64 x.v, .int .i64 x.a]
theorem hexa_length (l : List Ed) : (hexa l).length = l.length * 6 := by
  induction l with
  | nil => rfl
  | cons x l ih => simp only [hexa, List.flatMap_cons, List.length_append, List.length_cons] at *; rw [ih]; simp; omega
theorem hexa_get : ∀ (l : List Ed) (i : Nat), i < l.length → (hexa l)[i * 6]? = some (.int .i64 (eAt l i).k) ∧ (hexa l)[i * 6 + 1]? = some (.int .i64 (eAt l i).x) ∧ (hexa l)[i * 6 + 2]? = some (.int .i64 (eAt l i).t) ∧ (hexa l)[i * 6 + 3]? = some (.int .i64 (eAt l i).r) ∧ (hexa l)[i * 6 + 4]? = some (.int .i64 (eAt l i).v) ∧ (hexa l)[i * 6 + 5]? = some (.int .i64 (eAt l i).a)
  | [], i, h => absurd h (Nat.not_lt_zero _)
  | x :: l, 0, h => by simp [hexa, eAt]
  | x :: l, i + 1, h => by
    obtain ⟨h0, h1, h2, h3, h4, h5⟩ := hexa_get l i (by simpa using h)
    have e : hexa (x :: l) = [.int .i64 x.k, .int .i64 x.x, .int .i64 x.t, .int .i64 x.r, .int .i64 x.v, .int .i64 x.a] ++ hexa l := by simp [hexa]
    have ee : eAt (x :: l) (i + 1) = eAt l i := by simp [eAt]
    rw [e, ee]
    refine ⟨?_, ?_, ?_, ?_, ?_, ?_⟩
    · rw [List.getElem?_append_right (by simp; omega), show (i + 1) * 6 - _ = i * 6 by simp; omega]; exact h0
    · rw [List.getElem?_append_right (by simp; omega), show (i + 1) * 6 + 1 - _ = i * 6 + 1 by simp; omega]; exact h1
    · rw [List.getElem?_append_right (by simp; omega), show (i + 1) * 6 + 2 - _ = i * 6 + 2 by simp; omega]; exact h2
    · rw [List.getElem?_append_right (by simp; omega), show (i + 1) * 6 + 3 - _ = i * 6 + 3 by simp; omega]; exact h3
    · rw [List.getElem?_append_right (by simp; omega), show (i + 1) * 6 + 4 - _ = i * 6 + 4 by simp; omega]; exact h4
    · rw [List.getElem?_append_right (by simp; omega), show (i + 1) * 6 + 5 - _ = i * 6 + 5 by simp; omega]; exact h5
theorem hexa_one (l : List Ed) : ∀ v ∈ hexa l, v.oneCell' = true := by
  intro v hv
  simp [hexa] at hv
  obtain ⟨x, _, h⟩ := hv
  rcases h with rfl | rfl | rfl | rfl | rfl | rfl <;> rfl

theorem EvsAt.cells {lo hi : Nat} {w : World} {a : Option Addr} {cap : Nat} {l : List Ed} (h : EvsAt lo hi w (.slice a l.length cap) l) : CellsAt w a l.length (hexa l) := fun hp => by
  obtain ⟨a', cap', e, hm, hc⟩ := h
  injection e with e1 e2 e3
  subst e1
  obtain ⟨b, off, rfl, _, _, hcc⟩ := hc hp
  refine ⟨b, off, rfl, fun j v hj => ?_⟩
  have hjl : j < l.length * 6 := by rw [← hexa_length]; exact (List.getElem?_eq_some_iff.1 hj).1
  obtain ⟨g0, g1, g2, g3, g4, g5⟩ := hexa_get l (j / 6) (by omega)
  obtain ⟨k0, k1, k2, k3, k4, k5⟩ := hcc (j / 6) (by omega)
  have h6 : j % 6 = 0 ∨ j % 6 = 1 ∨ j % 6 = 2 ∨ j % 6 = 3 ∨ j % 6 = 4 ∨ j % 6 = 5 := by omega
  rcases h6 with e | e | e | e | e | e
  · rw [show j = j / 6 * 6 by omega] at hj ⊢
    rw [g0] at hj; cases hj; exact k0
  · rw [show j = j / 6 * 6 + 1 by omega] at hj ⊢
    rw [g1] at hj; cases hj; exact k1
  · rw [show j = j / 6 * 6 + 2 by omega] at hj ⊢
    rw [g2] at hj; cases hj; exact k2
  · rw [show j = j / 6 * 6 + 3 by omega] at hj ⊢
    rw [g3] at hj; cases hj; exact k3
  · rw [show j = j / 6 * 6 + 4 by omega] at hj ⊢
    rw [g4] at hj; cases hj; exact k4
  · rw [show j = j / 6 * 6 + 5 by omega] at hj ⊢
    rw [g5] at hj; cases hj; exact k5

theorem evs_block {lo hi : Nat} {w : World} {a : Option Addr} {cap : Nat} {l : List Ed} (h : EvsAt lo hi w (.slice a l.length cap) l) (hn : l.length ≤ 1048576) :
    Calls Tryz.prog 67 #[.slice a l.length cap] w fun e w' => e = .returned (.slice (some ⟨w.heap.size, 0, none⟩) l.length l.length) ∧ OwnE w' w.heap.size l ∧ Below w.heap.size w w' := by
  refine (copyEv_block a l.length cap (hexa l) w hn (hexa_length l) (hexa_one l) h.cells).mono ?_
  rintro e w' ⟨rfl, hB, hb⟩
  have hr := RowOf.of_cells hB
  rw [hexa_length] at hr
  refine ⟨rfl, ⟨_, hr, fun i hi => ?_⟩, hb⟩
  obtain ⟨g0, g1, g2, g3, g4, g5⟩ := hexa_get l i hi
  simp [List.getD, g0, g1, g2, g3, g4, g5]

theorem rows_block {lo hi : Nat} {w : World} {a : Option Addr} {cap : Nat} {l : List Rw} (h : RowsAt lo hi w (.slice a l.length cap) l) (hn : l.length ≤ 1048576) :
    Calls Tryz.prog 68 #[.slice a l.length cap] w fun e w' => e = .returned (.slice (some ⟨w.heap.size, 0, none⟩) l.length l.length) ∧ OwnW w' w.heap.size l ∧ Below w.heap.size w w' := by
  have hc : CellsAt w a l.length (tri l.length (fun i => .int .i64 (rAt l i).t) (fun i => .int .i64 (rAt l i).r) (fun i => .int .i64 (rAt l i).v)) := fun hp => by
    obtain ⟨a', cap', e, hm, hc⟩ := h
    injection e with e1 e2 e3
    subst e1
    obtain ⟨b, off, rfl, _, _, hcc⟩ := hc hp
    exact ⟨b, off, rfl, tri_cells hcc⟩
  refine (copyRow_block a l.length cap _ w hn (tri_length _ _ _ _) (tri_one fun i hi => ⟨rfl, rfl, rfl⟩) hc).mono ?_
  rintro e w' ⟨rfl, hB, hb⟩
  have hr := RowOf.of_cells hB
  rw [tri_length] at hr
  refine ⟨rfl, ⟨_, hr, fun i hi => ?_⟩, hb⟩
  obtain ⟨g0, g1, g2⟩ := tri_get (fun i => Value.int IntKind.i64 (rAt l i).t) (fun i => Value.int IntKind.i64 (rAt l i).r) (fun i => Value.int IntKind.i64 (rAt l i).v) l.length i hi
  simp only [List.getD, g0, g1, g2, Option.getD_some]
  exact ⟨trivial, trivial, trivial⟩

end Go.Proofs.YtmecbppblbmchaaGreatDoor

/- A region that draws its order and whose last operation waits for all others: the others first, in whatever order, then the last one. So what is held of the world need not hold behind the last one (a store into a cell that the region reads). -/
namespace Go.Proofs.YtmecbppblbmchaaGreatDoor
set_option linter.unusedVariables false

/-- What is asked behind the others: the last operation, and what was asked. -/
def lastQ (P : Program) (ops : Array Oper) (Q : Exit → Act → World → Prop) (n : Nat) : Exit → Act → World → Prop
  | .normal, a, w => wpOp P ops Q n (fun a w => Q .normal a w) a w
  | e, a, w => Q e a w

/-- Each operation but the last is waited for by a later one; each waits for earlier ones alone. -/
def lastCert (md : Region.Mode) (ops : Array Oper) : Bool :=
  ((List.range (ops.size - 1)).all fun j => (List.range ops.size).any fun s => decide (j < s) && (((ops[s]?).map fun o => o.after.any fun e => Region.binds md e && e.on == j).getD false)) &&
  ((List.range ops.size).all fun s => ((ops[s]?).map fun o => (o.after.all fun e => decide (e.on < s)) && (match o.guard with | some (g, _) => decide (g < s) | none => true)).getD true)

section
variable {P : Program} {ops ops' : Array Oper} {Q : Exit → Act → World → Prop} {md : Region.Mode}

theorem lastCert_waits (h : lastCert md ops = true) {j : Nat} (hj : j < ops.size - 1) : ∃ s o e, j < s ∧ ops[s]? = some o ∧ e ∈ o.after ∧ Region.binds md e = true ∧ e.on = j := by
  simp only [lastCert, Bool.and_eq_true, List.all_eq_true, List.mem_range] at h
  have h1 := h.1 j hj
  simp only [List.any_eq_true, List.mem_range, Bool.and_eq_true, decide_eq_true_eq] at h1
  obtain ⟨s, hs, hjs, h2⟩ := h1
  cases ho : ops[s]? with
  | none => rw [ho] at h2; simp at h2
  | some o =>
    rw [ho] at h2
    simp only [Option.map_some, Option.getD_some, Array.any_eq_true] at h2
    obtain ⟨i, hi, h3⟩ := h2
    simp only [Bool.and_eq_true, beq_iff_eq] at h3
    exact ⟨s, o, o.after[i], hjs, ho, Array.getElem_mem hi, h3.1, h3.2⟩

theorem lastCert_back (h : lastCert md ops = true) {s : Nat} {o : Oper} (ho : ops[s]? = some o) : (∀ e ∈ o.after, e.on < s) ∧ ∀ g b, o.guard = some (g, b) → g < s := by
  simp only [lastCert, Bool.and_eq_true, List.all_eq_true, List.mem_range] at h
  have hlt : s < ops.size := (Array.getElem?_eq_some_iff.1 ho).1
  have h1 := h.2 s hlt
  rw [ho] at h1
  simp only [Option.map_some, Option.getD_some, Bool.and_eq_true, Array.all_eq_true_iff_forall_mem, decide_eq_true_eq] at h1
  refine ⟨h1.1, fun g b hg => ?_⟩
  have h2 := h1.2
  rw [hg] at h2
  simpa using h2

/-- What is listed waits for what is listed. -/
def Shutdown (md : Region.Mode) (ops : Array Oper) (listed : Array Bool) : Prop := ∀ j o, ops[j]? = some o → listed.getD j false = true → ∀ e ∈ o.after, Region.binds md e = true → listed.getD e.on false = true

theorem getD_push (l : Array Bool) (j : Nat) (d : Bool) (h : j < l.size) : (l.push false).getD j d = l.getD j d := by
  have hn : j ≠ l.size := Nat.ne_of_lt h
  simp [Array.getElem?_push, hn]
theorem getD_push_false (l : Array Bool) (j : Nat) : (l.push false).getD j false = l.getD j false := by
  by_cases h : j < l.size
  · exact getD_push l j false h
  · by_cases e : j = l.size
    · subst e; simp
    · simp [Array.getElem?_push, e]

theorem pop_get (hp : ops' = ops.pop) {j : Nat} (hj : j < ops'.size) : ops'[j]? = ops[j]? := by
  subst hp
  simp only [Array.size_pop] at hj
  simp [hj]

theorem ready_pop (hp : ops' = ops.pop) {listed : Array Bool} (hl : listed.size = ops'.size) {j : Nat} (hj : j < ops'.size) : j ∈ Region.ready md ops (listed.push false) ↔ j ∈ Region.ready md ops' listed := by
  rw [mem_ready, mem_ready, getD_push _ _ _ (by omega), pop_get hp hj]
  simp only [getD_push_false]

theorem ready_last {listed : Array Bool} {n : Nat} {o : Oper} (ho : ops[n]? = some o) (hl : listed.size = n) : n ∈ Region.ready md ops (listed.push false) ↔ ∀ e ∈ o.after, Region.binds md e = true → listed.getD e.on false = true := by
  rw [mem_ready]
  subst hl
  constructor
  · rintro ⟨_, o', ho', h⟩
    rw [ho] at ho'
    cases ho'
    intro e he hb
    have := h e he hb
    rwa [getD_push_false] at this
  · intro h
    refine ⟨by simp, o, ho, fun e he hb => ?_⟩
    rw [getD_push_false]
    exact h e he hb

/-- Where the last one may come up all others have. -/
theorem all_listed (hc : lastCert md ops = true) {n : Nat} (hn : ops.size = n + 1) {listed : Array Bool} (hl : listed.size = n) (hd : Shutdown md ops listed) {o : Oper} (ho : ops[n]? = some o) (hr : ∀ e ∈ o.after, Region.binds md e = true → listed.getD e.on false = true) :
    ∀ d j, j + d + 1 = n → listed.getD j false = true := by
  intro d
  induction d using Nat.strongRecOn with
  | _ d ih =>
    intro j hj
    obtain ⟨s, os, e, hs, hos, he, hb, hon⟩ := lastCert_waits hc (j := j) (by omega)
    have hlt : s < ops.size := (Array.getElem?_eq_some_iff.1 hos).1
    by_cases hsn : s = n
    · subst hsn
      rw [ho] at hos
      cases hos
      rw [← hon]
      exact hr e he hb
    · have h1 := ih (n - s - 1) (by omega) s (by omega)
      rw [← hon]
      exact hd s os hos h1 e he hb

/-- Where none of the others may come up all others have. -/
theorem none_ready (hp : ops' = ops.pop) (hc : lastCert md ops = true) {listed : Array Bool} (hl : listed.size = ops'.size) (hr : Region.ready md ops' listed = []) (hs : ops.size = ops'.size + 1) :
    ∀ j, j < ops'.size → listed.getD j false = true := by
  intro j
  induction j using Nat.strongRecOn with
  | _ j ih =>
    intro hj
    cases h : listed.getD j false with
    | true => rfl
    | false =>
      exfalso
      have hlt : j < ops.size := by omega
      have ho : ops[j]? = some ops[j] := Array.getElem?_eq_getElem hlt
      have : j ∈ Region.ready md ops' listed := by
        rw [mem_ready]
        refine ⟨?_, ops[j], (pop_get hp hj).trans ho, fun e he hb => ih e.on ((lastCert_back hc ho).1 e he) (Nat.lt_trans ((lastCert_back hc ho).1 e he) hj)⟩
        have hjl : j < listed.size := by omega
        simp [hjl] at h ⊢
        exact h
      rw [hr] at this
      cases this

theorem Oper.wp_lastQ {o : Oper} {a : Act} {w : World} {K : Act → World → Prop} {n : Nat} (h : o.wp P a w K (lastQ P ops Q n)) : o.wp P a w K Q := by
  unfold Oper.wp at *
  generalize (execOp a.eval o).run P w = r at *
  cases r with
  | ok x w' =>
    cases x <;> simp only [Oper.upon] at h ⊢ <;>
      first
        | exact h
        | exact Calls.mono h (fun e w'' he => by cases e <;> first | exact he | (obtain ⟨a, w, ha⟩ := he; exact ⟨a, w, ha⟩))
  | halt x w' => cases x <;> simp only [Oper.upon] at h ⊢ <;> exact h

theorem wanted_pop (hp : ops' = ops.pop) (hc : lastCert md ops = true) {i : Nat} {o : Oper} (hi : i < ops'.size) (ho : ops[i]? = some o) (t : Array Value) : Region.wanted o (yielded ops' t) = Region.wanted o (yielded ops t) := by
  unfold Region.wanted
  cases hg : o.guard with
  | none => rfl
  | some gw =>
    obtain ⟨g, want⟩ := gw
    have := (lastCert_back hc ho).2 g want hg
    have e : yielded ops' t g = yielded ops t g := by unfold yielded; rw [pop_get hp (by omega)]
    simp only [e]

theorem wpOp_pop (hp : ops' = ops.pop) (hc : lastCert md ops = true) {i n : Nat} (hi : i < ops'.size) {K K' : Act → World → Prop} (hK : ∀ a w, K a w → K' a w) {a : Act} {w : World} (h : wpOp P ops' (lastQ P ops Q n) i K a w) : wpOp P ops Q i K' a w := by
  refine wpOp_mono hK ?_
  unfold wpOp at *
  rw [pop_get hp hi] at h
  cases ho : ops[i]? with
  | none => simpa [ho] using h
  | some o =>
    simp only [ho] at h ⊢
    rw [wanted_pop hp hc hi ho] at h
    by_cases hw : Region.wanted o (yielded ops a.tmps) = true
    · simp only [hw, if_true] at h ⊢
      rcases h with h | ⟨h1, a', w', h2⟩
      · exact .inl (Oper.wp_lastQ h)
      · exact .inr ⟨h1, a', w', h2⟩
    · simp only [hw] at h ⊢
      exact h

theorem wpAny_last (hp : ops' = ops.pop) (hc : lastCert md ops = true) (hs : ops.size = ops'.size + 1) :
    ∀ (fuel : Nat) (listed : Array Bool) (a : Act) (w : World), listed.size = ops'.size → Shutdown md ops listed → wpAny P md ops' (lastQ P ops Q ops'.size) fuel listed a w → wpAny P md ops Q (fuel + 1) (listed.push false) a w := by
  have hn : ops'.size < ops.size := by omega
  have ho : ops[ops'.size]? = some ops[ops'.size] := Array.getElem?_eq_getElem hn
  have atEnd : ∀ (fuel : Nat) (listed : Array Bool) (a : Act) (w : World), listed.size = ops'.size → (∀ j, j < ops'.size → listed.getD j false = true) → lastQ P ops Q ops'.size .normal a w → wpOp P ops Q ops'.size (wpAny P md ops Q fuel ((listed.push false).setIfInBounds ops'.size true)) a w := fun fuel listed a w hl hall hq => by
    refine wpOp_mono (fun a w h => wpAny_done ?_ h fuel) hq
    rw [List.eq_nil_iff_forall_not_mem]
    intro j hj
    rw [mem_ready] at hj
    obtain ⟨h1, o', ho', _⟩ := hj
    have hjl : j < ops.size := (Array.getElem?_eq_some_iff.1 ho').1
    by_cases e : j = ops'.size
    · subst e
      simp [hl] at h1
    · rw [getD_set_ne true (Ne.symm e), getD_push _ _ _ (by omega)] at h1
      have h2 := hall j (by omega)
      have h3 : j < listed.size := by omega
      simp [h3] at h1 h2
      rw [h1] at h2
      cases h2
  intro fuel
  induction fuel with
  | zero =>
    intro listed a w hl hd h
    obtain ⟨h1, h2⟩ := h
    have hall := none_ready hp hc hl h1 hs
    have hrd : ops'.size ∈ Region.ready md ops (listed.push false) := (ready_last ho hl).2 fun e he hb => hall _ ((lastCert_back hc ho).1 e he)
    refine ⟨fun h => (by rw [h] at hrd; cases hrd), fun i hi => ?_⟩
    have hil : i < ops.size := by obtain ⟨_, o, ho, _⟩ := mem_ready.1 hi; exact (Array.getElem?_eq_some_iff.1 ho).1
    by_cases e : i = ops'.size
    · subst e
      exact atEnd 0 listed a w hl hall h2
    · rw [ready_pop hp hl (by omega), h1] at hi
      cases hi
  | succ fuel ih =>
    intro listed a w hl hd h
    obtain ⟨h1, h2⟩ := h
    refine ⟨fun hr => ?_, fun i hi => ?_⟩
    · have hr' : Region.ready md ops' listed = [] := by
        rw [List.eq_nil_iff_forall_not_mem]
        intro j hj
        have hjl : j < ops'.size := by obtain ⟨_, o, ho, _⟩ := mem_ready.1 hj; exact (Array.getElem?_eq_some_iff.1 ho).1
        rw [← ready_pop hp hl hjl, hr] at hj
        cases hj
      have hall := none_ready hp hc hl hr' hs
      have hrd : ops'.size ∈ Region.ready md ops (listed.push false) := (ready_last ho hl).2 fun e he hb => hall _ ((lastCert_back hc ho).1 e he)
      rw [hr] at hrd
      cases hrd
    · have hil : i < ops.size := by obtain ⟨_, o, ho, _⟩ := mem_ready.1 hi; exact (Array.getElem?_eq_some_iff.1 ho).1
      by_cases e : i = ops'.size
      · subst e
        have hr := (ready_last ho hl).1 hi
        have hall : ∀ j, j < ops'.size → listed.getD j false = true := fun j hj => all_listed hc hs hl hd ho hr (ops'.size - j - 1) j (by omega)
        refine atEnd _ listed a w hl hall (h1 ?_)
        rw [List.eq_nil_iff_forall_not_mem]
        intro j hj
        obtain ⟨h3, o, ho, _⟩ := mem_ready.1 hj
        have hjl : j < ops'.size := (Array.getElem?_eq_some_iff.1 ho).1
        have h4 := hall j hjl
        have h5 : j < listed.size := by omega
        simp [h5] at h3 h4
        rw [h3] at h4
        cases h4
      · have hi' : i < ops'.size := by omega
        have hr := (ready_pop hp hl hi').1 hi
        refine wpOp_pop hp hc hi' (fun a w hK => ?_) (h2 i hr)
        have e2 : (listed.push false).setIfInBounds i true = (listed.setIfInBounds i true).push false := by
          have hil2 : i < listed.size := by omega
          have hne2 : i ≠ listed.size := by omega
          refine Array.ext_getElem? fun j => ?_
          by_cases e3 : j = i
          · subst e3
            rw [Array.getElem?_setIfInBounds_self_of_lt (by simp; omega), Array.getElem?_push, if_neg (by simpa using hne2), Array.getElem?_setIfInBounds_self_of_lt hil2]
          · simp [Array.getElem?_push, Array.getElem?_setIfInBounds_ne (Ne.symm e3)]
        rw [e2]
        refine ih _ a w (by simpa using hl) (fun j o hoj hj ed he hb => ?_) hK
        by_cases eji : j = i
        · subst eji
          obtain ⟨_, o', ho', hall⟩ := mem_ready.1 hr
          rw [pop_get hp hi', hoj] at ho'
          cases ho'
          exact getD_set_true (hall ed he hb)
        · rw [getD_set_ne false (Ne.symm eji)] at hj
          exact getD_set_true (hd j o hoj hj ed he hb)

theorem shut_start (n : Nat) : Shutdown md ops (Array.replicate n false) := fun j o ho hj e he hb => by
  exfalso
  by_cases hjl : j < n
  · simp [hjl] at hj
  · simp [hjl] at hj

variable {S : World → Prop} {l : List Oper}

/-- **The last one last**: the region without it, and behind it the last one. -/
theorem region_last {id : Nat} {a : Act} {w : World} (S : World → Prop) (hm : P.follows .mixedOrders = true) (hc : lastCert .any l.toArray = true) (hs : (l.length == l.dropLast.length + 1) = true) (hS : S w.drew)
    (h : S w.drew → wpAnyH P .any l.dropLast.toArray (lastQ P l.toArray Q l.dropLast.length) S l.dropLast.length (Array.replicate l.dropLast.length false) a w.drew) : (Code.region id l.toArray true).wp P Q a w := by
  have hs' : l.length = l.dropLast.length + 1 := by simpa using hs
  have hp : l.dropLast.toArray = l.toArray.pop := by simp
  refine wp_region_any hm ?_
  have := wpAny_last (P := P) (Q := Q) hp hc (by simpa using hs') l.dropLast.length (Array.replicate l.dropLast.length false) a w.drew (by simp) (shut_start _) (wpAny_of_held _ _ _ _ (h hS))
  rw [show (Array.replicate l.dropLast.length false).push false = Array.replicate l.length false by rw [hs', Array.replicate_succ]] at this
  rw [List.size_toArray]
  rw [← hs'] at this
  exact this

/-- The same, with no last one set apart. -/
theorem region_all {id : Nat} {a : Act} {w : World} (S : World → Prop) (hm : P.follows .mixedOrders = true) (hS : S w.drew)
    (h : S w.drew → wpAnyH P .any l.toArray Q S l.length (Array.replicate l.length false) a w.drew) : (Code.region id l.toArray true).wp P Q a w :=
  wp_region_held_drew (S := S) hm hS (by simpa using h)

theorem takeL {i : Nat} {oi : Oper} {v : Value} {fuel : Nat} {listed : Array Bool} {a : Act} {w : World} (hi : l[i]? = some oi)
    (hs : Region.noSelect l.toArray = true) (hf : Region.free md l.toArray listed i = true) (hr : (Region.ready md l.toArray listed).contains i = true)
    (hQ : ∀ c a w, Q (.panic c) (a.put oi.dst v) w → Q (.panic c) a w) (hg : oi.guard = none) (hS : S w) (hy : ∀ w, S w → (execOp a.eval oi).run P w = .ok (.value v) w)
    (h : wpAnyH P md l.toArray Q S fuel (listed.setIfInBounds i true) (a.put oi.dst v) w) : wpAnyH P md l.toArray Q S (fuel + 1) listed a w :=
  wpAnyH_take (by simpa using hi) hs hf hr hQ (.inl ⟨by simp [Region.wanted, hg], hy⟩) hS h

/-- The one operation that may come up. -/
theorem stepL {i : Nat} {o : Oper} {fuel : Nat} {listed : Array Bool} {a : Act} {w : World} (hi : l[i]? = some o) (hr : Region.ready md l.toArray listed = [i])
    (h : ∀ K' : Act → World → Prop, Shut (∀ a w, S w → (S w → wpAnyH P md l.toArray Q S fuel (listed.setIfInBounds i true) a w) → K' a w) → if Region.wanted o (yielded l.toArray a.tmps) = true then Oper.wp P o a w K' Q else K' (a.put o.dst undef) w) :
    wpAnyH P md l.toArray Q S (fuel + 1) listed a w :=
  wpAnyH_ready hr (by simp) (AllReadyH.cons (by simpa using hi) h AllReadyH.nil)

/-- Two that may come up: either first. -/
theorem step2L {i j : Nat} {o o' : Oper} {fuel : Nat} {listed : Array Bool} {a : Act} {w : World} (hi : l[i]? = some o) (hj : l[j]? = some o') (hr : Region.ready md l.toArray listed = [i, j])
    (h : ∀ K' : Act → World → Prop, Shut (∀ a w, S w → (S w → wpAnyH P md l.toArray Q S fuel (listed.setIfInBounds i true) a w) → K' a w) → if Region.wanted o (yielded l.toArray a.tmps) = true then Oper.wp P o a w K' Q else K' (a.put o.dst undef) w)
    (h' : ∀ K' : Act → World → Prop, Shut (∀ a w, S w → (S w → wpAnyH P md l.toArray Q S fuel (listed.setIfInBounds j true) a w) → K' a w) → if Region.wanted o' (yielded l.toArray a.tmps) = true then Oper.wp P o' a w K' Q else K' (a.put o'.dst undef) w) :
    wpAnyH P md l.toArray Q S (fuel + 1) listed a w :=
  wpAnyH_ready hr (by simp) (AllReadyH.cons (by simpa using hi) h (AllReadyH.cons (by simpa using hj) h' AllReadyH.nil))

/-- Behind all others: the last one. -/
theorem lastL {n : Nat} {o : Oper} {a : Act} {w : World} (hi : l[n]? = some o) (hg : o.guard = none) (h : o.wp P a w (fun a w => Q .normal a w) Q) : lastQ P l.toArray Q n .normal a w := by
  show wpOp P l.toArray Q n _ a w
  unfold wpOp
  have hi' : l.toArray[n]? = some o := by simpa using hi
  simp only [hi']
  rw [if_pos (by simp [Region.wanted, hg])]
  exact .inl h

end
end Go.Proofs.YtmecbppblbmchaaGreatDoor
