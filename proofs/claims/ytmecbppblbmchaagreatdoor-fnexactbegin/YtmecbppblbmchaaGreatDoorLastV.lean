import Derived.Test.YtmecbppblbmchaaGreatDoorCopyM
import Derived.Deep.RegionLaw
import Derived.Test.YtmecbppblbmchaaGreatDoorRead
/- impl.copyStore: a copy of a store that is owned. -/
namespace Go.Proofs.YtmecbppblbmchaaGreatDoor
open Go.ChangeShapes Go.WideShapes Go.ChangeAt Go.RowKit Go.Maps Go.Sort
set_option linter.unusedVariables false
set_option maxRecDepth 100000
attribute [local go_sem ↓] Go.wp_at_zero Go.wp_at_succ

/-- n elements of three cells. -/
def tri (n : Nat) (f g h : Nat → Value) : List Value := (List.range n).flatMap fun i => [f i, g i, h i]
theorem tri_length (n : Nat) (f g h : Nat → Value) : (tri n f g h).length = n * 3 := by
  induction n with
  | zero => rfl
  | succ n ih => rw [tri, List.range_succ, List.flatMap_append, List.length_append, ← tri, ih]; simp; omega
theorem tri_get (f g h : Nat → Value) : ∀ (n i : Nat), i < n → (tri n f g h)[i * 3]? = some (f i) ∧ (tri n f g h)[i * 3 + 1]? = some (g i) ∧ (tri n f g h)[i * 3 + 2]? = some (h i)
  | 0, i, hi => absurd hi (Nat.not_lt_zero _)
  | n + 1, i, hi => by
    have e : tri (n + 1) f g h = tri n f g h ++ [f n, g n, h n] := by simp [tri, List.range_succ]
    have hl := tri_length n f g h
    rw [e]
    by_cases hn : i = n
    · subst hn
      refine ⟨?_, ?_, ?_⟩ <;> rw [List.getElem?_append_right (by omega)] <;> simp [hl]
    · obtain ⟨g1, g2, g3⟩ := tri_get f g h n i (by omega)
      refine ⟨?_, ?_, ?_⟩ <;> rw [List.getElem?_append_left (by omega)]
      · exact g1
      · exact g2
      · exact g3
theorem tri_one {n : Nat} {f g h : Nat → Value} (h1 : ∀ i, i < n → (f i).oneCell' = true ∧ (g i).oneCell' = true ∧ (h i).oneCell' = true) : ∀ v ∈ tri n f g h, v.oneCell' = true := fun v hv => by
  obtain ⟨i, hi, hm⟩ := List.mem_flatMap.1 hv
  obtain ⟨a, b, c⟩ := h1 i (List.mem_range.1 hi)
  simp at hm
  rcases hm with rfl | rfl | rfl
  · exact a
  · exact b
  · exact c
theorem tri_cells {w : World} {b off n : Nat} {f g h : Nat → Value} (hc : ∀ i, i < n → w.cell? ⟨b, off + i * 3, none⟩ = some (f i) ∧ w.cell? ⟨b, off + i * 3 + 1, none⟩ = some (g i) ∧ w.cell? ⟨b, off + i * 3 + 2, none⟩ = some (h i)) : ∀ j v, (tri n f g h)[j]? = some v → w.cell? ⟨b, off + j, none⟩ = some v := fun j v hj => by
  have hjl : j < n * 3 := by rw [← tri_length n f g h]; exact (List.getElem?_eq_some_iff.1 hj).1
  obtain ⟨g1, g2, g3⟩ := tri_get f g h n (j / 3) (by omega)
  obtain ⟨k1, k2, k3⟩ := hc (j / 3) (by omega)
  have h3 : j % 3 = 0 ∨ j % 3 = 1 ∨ j % 3 = 2 := by omega
  rcases h3 with e | e | e
  · rw [show j = j / 3 * 3 by omega] at hj ⊢
    rw [g1] at hj
    cases hj
    exact k1
  · rw [show j = j / 3 * 3 + 1 by omega] at hj ⊢
    rw [g2] at hj
    cases hj
    exact k2
  · rw [show j = j / 3 * 3 + 2 by omega] at hj ⊢
    rw [g3] at hj
    cases hj
    exact k3

theorem RowOf.of_cells {w : World} {b : Nat} {T : TypeId} {cs : List Value} (h : w.heap[b]? = some (.cells cs.toArray T (0, 0))) : RowOf w b T cs.length (fun j => cs.getD j undef) :=
  ⟨cs.toArray, h, by simp, fun j hj => by simp [List.getD, List.getElem?_eq_getElem hj]⟩

theorem below_al (w : World) (o : Obj) : Below w.heap.size w (w.alloc o) := (Below.refl _ _).alloc (Nat.le_refl _) _

theorem choose_cells {w : World} {b off : Nat} {l : List Ch} {lo hi : Nat} (hcc : ∀ i, i < l.length → w.cell? ⟨b, off + i * 3, none⟩ = some (.int .i64 (cAt l i).t) ∧ w.cell? ⟨b, off + i * 3 + 1, none⟩ = some (.int .i64 (cAt l i).r) ∧ ∃ a c, w.cell? ⟨b, off + i * 3 + 1 + 1, none⟩ = some (.slice a (cAt l i).l.length c) ∧ VersAt lo hi w (.slice a (cAt l i).l.length c) (cAt l i).l) :
    ∃ A : Nat → Option Addr × Nat, ∀ i, i < l.length → w.cell? ⟨b, off + i * 3, none⟩ = some (.int .i64 (cAt l i).t) ∧ w.cell? ⟨b, off + i * 3 + 1, none⟩ = some (.int .i64 (cAt l i).r) ∧ w.cell? ⟨b, off + i * 3 + 2, none⟩ = some (.slice (A i).1 (cAt l i).l.length (A i).2) ∧ VersAt lo hi w (.slice (A i).1 (cAt l i).l.length (A i).2) (cAt l i).l := by
  have key : ∀ i, ∃ q : Option Addr × Nat, i < l.length → w.cell? ⟨b, off + i * 3, none⟩ = some (.int .i64 (cAt l i).t) ∧ w.cell? ⟨b, off + i * 3 + 1, none⟩ = some (.int .i64 (cAt l i).r) ∧ w.cell? ⟨b, off + i * 3 + 2, none⟩ = some (.slice q.1 (cAt l i).l.length q.2) ∧ VersAt lo hi w (.slice q.1 (cAt l i).l.length q.2) (cAt l i).l := fun i => by
    by_cases hi : i < l.length
    · obtain ⟨c0, c1, a, c, c2, c3⟩ := hcc i hi
      exact ⟨(a, c), fun _ => ⟨c0, c1, c2, c3⟩⟩
    · exact ⟨(none, 0), fun h => absurd h hi⟩
  exact ⟨fun i => Classical.choose (key i), fun i hi => Classical.choose_spec (key i) hi⟩

theorem vers_block {lo hi : Nat} {w : World} {a : Option Addr} {cap : Nat} {l : List Vr} (h : VersAt lo hi w (.slice a l.length cap) l) (hn : l.length ≤ 1048576) :
    Calls Tryz.prog 104 #[.slice a l.length cap] w fun e w' => e = .returned (.slice (some ⟨w.heap.size, 0, none⟩) l.length l.length) ∧ OwnV w' w.heap.size l ∧ Below w.heap.size w w' := by
  refine (copyVers_block a l.length cap (vcells l) w hn (vcells_length l) (vcells_one l) h.cells).mono ?_
  rintro e w' ⟨rfl, hB, hb⟩
  have hr := RowOf.of_cells hB
  rw [vcells_length] at hr
  refine ⟨rfl, ⟨_, hr, fun i hi => ?_⟩, hb⟩
  obtain ⟨g1, g2⟩ := vcells_get l i hi
  simp [List.getD, g1, g2]

set_option maxHeartbeats 2000000 in
theorem copyStore_own (v : Value) (l : List Ch) (w : World) {lo hi : Nat} (h : ChainsAt lo hi w v l) (hn : Small l) :
    Calls Tryz.prog 65 #[.agg #[v]] w fun e w' => ∃ b Bs, e = .returned (.agg #[.slice (some ⟨b, 0, none⟩) l.length l.length]) ∧ OwnC w.heap.size w'.heap.size w' b Bs l ∧ Below w.heap.size w w' := by
  obtain ⟨a, cap, rfl, hm, hc⟩ := h
  have hn1 := hn.1
  have hA : Below w.heap.size w ((w.alloc (Obj.cells #[Value.slice a l.length cap] 32)).alloc (Obj.cells #[Value.slice none 0 0] 32)) := ((Below.refl _ _).alloc (Nat.le_refl _) _).alloc (by simp) _
  obtain ⟨A, hcA, hAl⟩ : ∃ A : Nat → Option Addr × Nat, CellsAt w a l.length (tri l.length (fun i => .int .i64 (cAt l i).t) (fun i => .int .i64 (cAt l i).r) (fun i => .slice (A i).1 (cAt l i).l.length (A i).2)) ∧ ∀ i, i < l.length → VersAt lo hi w (.slice (A i).1 (cAt l i).l.length (A i).2) (cAt l i).l ∧ ∀ b off, a = some ⟨b, off, none⟩ → w.cell? ⟨b, off + i * 3, none⟩ = some (.int .i64 (cAt l i).t) ∧ w.cell? ⟨b, off + i * 3 + 1, none⟩ = some (.int .i64 (cAt l i).r) ∧ w.cell? ⟨b, off + i * 3 + 1 + 1, none⟩ = some (.slice (A i).1 (cAt l i).l.length (A i).2) := by
    by_cases hp : 0 < l.length
    · obtain ⟨b, off, rfl, _, _, hcc⟩ := hc hp
      obtain ⟨A, hAA⟩ := choose_cells hcc
      refine ⟨A, fun _ => ⟨b, off, rfl, tri_cells fun i hi => ⟨(hAA i hi).1, (hAA i hi).2.1, (hAA i hi).2.2.1⟩⟩, fun i hi => ⟨(hAA i hi).2.2.2, fun b' off' e => ?_⟩⟩
      injection e with e
      injection e with e1 e2
      subst e1 e2
      exact ⟨(hAA i hi).1, (hAA i hi).2.1, (hAA i hi).2.2.1⟩
    · exact ⟨fun _ => (none, 0), fun h => absurd h hp, fun i hi => absurd hi (by omega)⟩
  clear hc
  go_enter Tryz.func65, Tryz.ntmps65
  go_wp2_with fail
  refine (copyChain_block a l.length cap _ _ hn1 (tri_length _ _ _ _) (tri_one fun i hi => ⟨rfl, rfl, rfl⟩) (hcA.stays hA)).mono ?_
  rintro e w1 ⟨rfl, hB1, hb1⟩
  simp only [World.size_alloc] at hB1
  have b1 := hA.trans (hb1.mono hA.size)
  have p0 : w1.cell? ⟨w.heap.size, 0, none⟩ = some (.slice a l.length cap) := cell_stays hb1 (by simp [go_sem])
  have p1 : w1.cell? ⟨w.heap.size + 1, 0, none⟩ = some (.slice none 0 0) := cell_stays hb1 (by simp [go_sem])
  have q1 : w1.frozen? ⟨w.heap.size + 1, 0, none⟩ = false := by rw [hb1.frozen (by simp)]; simp [go_sem]
  have hr1 := RowOf.of_cells hB1
  rw [tri_length] at hr1
  have z1 := hr1.lt
  have bA := below_al w1 (Obj.cells #[Value.slice (some ⟨w.heap.size + 1 + 1, 0, none⟩) l.length l.length] 32)
  have b2 := b1.trans (bA.mono b1.size)
  have p2 : (w1.alloc (Obj.cells #[Value.slice (some ⟨w.heap.size + 1 + 1, 0, none⟩) l.length l.length] 32)).cell? ⟨w1.heap.size, 0, none⟩ = some (.slice (some ⟨w.heap.size + 1 + 1, 0, none⟩) l.length l.length) := by simp [go_sem]
  have hr2 := hr1.of_block (bA.block _ hr1.lt)
  replace p0 := cell_stays bA p0
  replace p1 := cell_stays bA p1
  have q2 : (w1.alloc (Obj.cells #[Value.slice (some ⟨w.heap.size + 1 + 1, 0, none⟩) l.length l.length] 32)).frozen? ⟨w.heap.size + 1, 0, none⟩ = false := by rw [bA.frozen (show w.heap.size + 1 < w1.heap.size by omega)]; exact q1
  go_wp2
  go_loopw [13] (fun i wr => ∃ (k : Nat) (f : Nat → Value) (Bs : Nat → Nat), k ≤ l.length ∧ i = .int .i64 k ∧ Below w.heap.size w wr ∧ w1.heap.size < wr.heap.size ∧ wr.cell? ⟨w.heap.size + 1, 0, none⟩ = some (.slice none 0 0) ∧ wr.frozen? ⟨w.heap.size + 1, 0, none⟩ = false ∧ wr.cell? ⟨w1.heap.size, 0, none⟩ = some (.slice (some ⟨w.heap.size + 1 + 1, 0, none⟩) l.length l.length) ∧ RowOf wr (w.heap.size + 1 + 1) 94 (l.length * 3) f ∧
      (∀ j, j < l.length → f (j * 3) = .int .i64 (cAt l j).t ∧ f (j * 3 + 1) = .int .i64 (cAt l j).r) ∧ (∀ j, j < k → f (j * 3 + 2) = .slice (some ⟨Bs j, 0, none⟩) (cAt l j).l.length (cAt l j).l.length ∧ OwnV wr (Bs j) (cAt l j).l ∧ w1.heap.size < Bs j) ∧ ∀ i j, i < j → j < k → Bs i < Bs j) (fun i _ => l.length - (intOf i).toNat)
  case atStart =>
    refine ⟨0, _, fun _ => 0, Nat.zero_le _, rfl, b2, by simp, p1, q2, p2, hr2, fun j hj => ?_, fun j hj => absurd hj (Nat.not_lt_zero _), fun i j _ hj => absurd hj (Nat.not_lt_zero _)⟩
    obtain ⟨g1, g2, g3⟩ := tri_get (fun i => Value.int IntKind.i64 (cAt l i).t) (fun i => Value.int IntKind.i64 (cAt l i).r) (fun i => Value.slice (A i).1 (cAt l i).l.length (A i).2) l.length j hj
    simp only [List.getD, g1, g2, Option.getD_some]
    exact ⟨trivial, trivial⟩
  case round =>
    rename World => wo
    clear hr2 hr1 hB1 p0 p1 p2 q1 q2 b2 bA hb1
    obtain ⟨k, f, Bs, hk, rfl, hb, hz, p1, q1, p2, hrow, hf0, hf, hup⟩ := hrel
    by_cases hlt : k < l.length
    · obtain ⟨hvk, hcellk⟩ := hAl k hlt
      obtain ⟨b, off, rfl, _⟩ := hcA (by omega)
      obtain ⟨c0, c1, c2⟩ := hcellk b off rfl
      replace c0 := cell_stays hb c0
      replace c1 := cell_stays hb c1
      replace c2 := cell_stays hb c2
      have hn2 := hn.2 k hlt
      have i0 : (0 : Int) ≤ (k : Int) := by omega
      have i1 : (k : Int) < (l.length : Int) := by omega
      have bB := below_al wo (Obj.cells #[Value.int IntKind.i64 (cAt l k).t, Value.int IntKind.i64 (cAt l k).r, Value.slice (A k).1 (cAt l k).l.length (A k).2] 94)
      have hvB := (hvk.stays hb).stays bB
      have s0 : (wo.alloc (Obj.cells #[Value.int IntKind.i64 (cAt l k).t, Value.int IntKind.i64 (cAt l k).r, Value.slice (A k).1 (cAt l k).l.length (A k).2] 94)).drew.cell? ⟨wo.heap.size, 2, none⟩ = some (.slice (A k).1 (cAt l k).l.length (A k).2) := by simp [go_sem]
      have s1 : (wo.alloc (Obj.cells #[Value.int IntKind.i64 (cAt l k).t, Value.int IntKind.i64 (cAt l k).r, Value.slice (A k).1 (cAt l k).l.length (A k).2] 94)).drew.cell? ⟨w1.heap.size, 0, none⟩ = some (.slice (some ⟨w.heap.size + 1 + 1, 0, none⟩) l.length l.length) := cell_stays bB.drew p2
      clear hcellk hAl hcA
      go_wp2_with fail
      go_region_law (rw [if_pos (by rfl)]; go_simp; go_at_call 104; refine (vers_block (hvB.stays (Below.refl _ _).drew) hn2).mono ?_; rintro e w4 ⟨rfl, hV4, hb4⟩; have bb4 : Below wo.heap.size wo w4 := bB.drew.trans (hb4.mono (by show wo.heap.size ≤ (wo.alloc _).heap.size; simp)); have t1 := cell_stays bb4 p2; have r4 := hrow.of_block (bb4.block _ hrow.lt); have u0 := r4.cell (show k * 3 + 2 < l.length * 3 by omega); have u1 := r4.frozen (k * 3 + 2); simp only [])
      all_goals (
        have zz : wo.heap.size ≤ w4.heap.size := bb4.size
        have z4 : wo.heap.size + 1 ≤ w4.heap.size := by have := hb4.size; change (wo.alloc _).heap.size ≤ _ at this; simpa using this
        have hzB := hrow.lt
        go_wp2
        go_roundw
        case rel =>
          refine ⟨k + 1, _, upd Bs k (wo.heap.size + 1), by omega, by go_num, (hb.trans (bb4.mono hb.size)).setCell (by simp; omega) _, by simp only [size_setCell]; omega, ?_, ?_, ?_, r4.set _ _, fun j hj => ?_, fun j hj => ?_, fun i j hij hj => ?_⟩
          · exact cell_same (Below.heap_setCell _ _ _ _ (show w.heap.size + 1 ≠ w.heap.size + 1 + 1 by omega)) (cell_stays bb4 p1)
          · rw [World.frozen?_of_block (w := w4) (a := ⟨w.heap.size + 1, 0, none⟩) (Below.heap_setCell _ _ _ _ (show w.heap.size + 1 ≠ w.heap.size + 1 + 1 by omega)), bb4.frozen (cell_lt p1)]; exact q1
          · exact cell_same (Below.heap_setCell _ _ _ _ (show w1.heap.size ≠ w.heap.size + 1 + 1 by omega)) t1
          · rw [if_neg (by omega), if_neg (by omega)]; exact hf0 j hj
          · have hs : ∀ x v', w.heap.size + 1 + 1 < x → (w4.setCell ⟨w.heap.size + 1 + 1, k * 3 + 2, none⟩ v').heap[x]? = w4.heap[x]? := fun x v' hx => Below.heap_setCell _ _ _ _ (show x ≠ w.heap.size + 1 + 1 by omega)
            by_cases e : j = k
            · subst e
              exact ⟨by simp [upd_same], by rw [upd_same]; exact (show OwnV w4 (wo.heap.size + 1) _ by have := hV4; change OwnV w4 (wo.alloc _).heap.size _ at this; simpa using this).of_block (hs _ _ (by omega)), by rw [upd_same]; omega⟩
            · obtain ⟨g1, g2, g3⟩ := hf j (by omega)
              exact ⟨by rw [if_neg (by omega), upd_other _ e]; exact g1, by rw [upd_other _ e]; exact (g2.of_block (bb4.block _ g2.lt)).of_block (hs _ _ (by omega)), by rw [upd_other _ e]; exact g3⟩
          · by_cases e : j = k
            · have := (hf i (by omega)).2.1.lt
              rw [e, upd_same, upd_other _ (by omega)]; omega
            · rw [upd_other _ e, upd_other _ (by omega)]; exact hup i j hij (by omega)
        case measure => simp [intOf]; omega)
    · obtain rfl : k = l.length := by omega
      clear hAl hcA
      have hzB := hrow.lt
      go_wp2
      refine bodyPost_ret (v := .agg #[.slice (some ⟨w.heap.size + 1 + 1, 0, none⟩) l.length l.length]) (by simp [results, Tryz.results65, go_sem, p1]) rfl ⟨w.heap.size + 1 + 1, Bs, rfl, ?_, hb.setCell (by simp) _⟩
      have hs : ∀ x v', w.heap.size + 1 < x → (wo.setCell ⟨w.heap.size + 1, 0, none⟩ v').heap[x]? = wo.heap[x]? := fun x v' hx => Below.heap_setCell _ _ _ _ (show x ≠ w.heap.size + 1 by omega)
      refine ⟨by omega, by simp only [size_setCell]; exact hzB, f, hrow.of_block (hs _ _ (by omega)), fun i hi => ?_, fun i j hij hj => by have := hup i j hij hj; omega⟩
      obtain ⟨g1, g2, g3⟩ := hf i hi
      obtain ⟨k1, k2⟩ := hf0 i hi
      have := g2.lt
      exact ⟨k1, k2, ⟨_, Nat.le_refl _, g1⟩, g2.of_block (hs _ _ (by omega)), by omega, by simp only [size_setCell]; exact g2.lt, by omega⟩

end Go.Proofs.YtmecbppblbmchaaGreatDoor

/- The hour of a row's last version. -/
namespace Go.Proofs.YtmecbppblbmchaaGreatDoor
open Go.ChangeShapes Go.WideShapes Go.ChangeAt Go.RowKit Go.Sort Go.Maps
set_option linter.unusedVariables false
set_option maxRecDepth 100000
attribute [local go_sem ↓] Go.wp_at_zero Go.wp_at_succ

/-- The hour of the last version of the first chain of that key. -/
def IsLastAt (l : List Ch) (t r : Int) (x : Int) : Prop := (x = 0 ∧ ∀ i, i < l.length → ¬ km l i t r) ∨ ∃ n : Nat, n < l.length ∧ km l n t r ∧ (∀ i, i < n → ¬ km l i t r) ∧ x = (vAt (cAt l n).l ((cAt l n).l.length - 1)).1

theorem IsLastAt.one {l : List Ch} {t r x y : Int} (hx : IsLastAt l t r x) (hy : IsLastAt l t r y) : x = y := by
  rcases hx with ⟨rfl, h1⟩ | ⟨i, h1, h2, h3, h4⟩ <;> rcases hy with ⟨rfl, g1⟩ | ⟨j, g1, g2, g3, g4⟩
  · rfl
  · exact absurd g2 (h1 j g1)
  · exact absurd h2 (g1 i h1)
  · have e : i = j := by
      rcases Nat.lt_trichotomy i j with hlt | e | hlt
      · exact absurd h2 (g3 i hlt)
      · exact e
      · exact absurd g2 (h3 j hlt)
    subst e
    rw [h4, g4]

theorem l1last_any (v : Value) (l : List Ch) (t r : Int) (w : World) {lo hi : Nat} (hl : ChainsAt lo hi w v l) (hs : storeOk l) :
    Calls Tryz.prog 59 #[.agg #[v], .agg #[.int .i64 t, .int .i64 r]] w fun e w' => ∃ x, e = .returned (.int .i64 x) ∧ IsLastAt l t r x ∧ Below w.heap.size w w' := by
  have hl2 := hl
  obtain ⟨a, cap, hv, hm, hc⟩ := hl2
  subst hv
  unfold maxLen at hm
  have hbx : Below w.heap.size w ((w.alloc (Obj.cells #[Value.slice a l.length cap] 32)).alloc (Obj.cells #[.int .i64 t, .int .i64 r] 46)) := ((Below.refl _ _).alloc (Nat.le_refl _) _).alloc (by simp) _
  go_enter Tryz.func59, Tryz.ntmps59
  go_wp2_with fail
  refine (l1chain_any _ l t r _ (hl.stays hbx)).mono ?_
  rintro e w1 ⟨x, rfl, hx, hb1⟩
  have b1 := hbx.trans (hb1.mono hbx.size)
  have p0 : w1.cell? ⟨w.heap.size, 0, none⟩ = some (.slice a l.length cap) := cell_stays hb1 (by simp [go_sem])
  clear hb1 hbx
  rcases hx with ⟨rfl, hno⟩ | ⟨n, rfl, hn, hkm, hfirst⟩
  · clear hc
    go_wp2
    go_ret
    exact ⟨_, rfl, .inl ⟨rfl, hno⟩, b1⟩
  · obtain ⟨b, off, rfl, hlo, hhi, hcc⟩ := hc (by omega)
    obtain ⟨c0, c1, ca, cb, c2, c3⟩ := hcc n hn
    obtain ⟨a2, cap2, e2, hm2, hc2⟩ := c3
    injection e2 with e2a e2b e2c
    subst e2a e2c
    have hpos := (hs.2 n hn).2.2.1
    obtain ⟨b2, off2, rfl, _, _, hcc2⟩ := hc2 (by omega)
    have d0 := hcc2 ((cAt l n).l.length - 1) (by omega)
    have k0 := cell_regrown p0
    have k1 := cell_regrown (cell_stays b1 c2)
    have k2 := cell_regrown (cell_stays b1 d0.1)
    clear e2b hcc hc c0 c1 hc2 hcc2 d0 c2
    unfold maxLen at hm2
    have n0 : (0 : Int) ≤ (n : Int) := by omega
    have n1 : (n : Int) < (l.length : Int) := by omega
    have n2 : (1 : Int) ≤ ((cAt l n).l.length : Int) := by omega
    go_wp2_with fail
    refine wp_region_quiet_below (by kernel_rfl) (by kernel_rfl) ?_
    repeat (go_big_quiet_step (fail))
    refine wpQuiet_nil ?_
    intro w2 hw2
    obtain ⟨⟨dq, osq⟩, hw3⟩ := hw2
    have hb2 : Below _ _ w2 := hw3 ▸ below_regrown _ dq osq
    clear hw3
    go_wp2
    go_ret
    exact ⟨_, rfl, .inr ⟨n, hn, hkm, hfirst, rfl⟩, b1.trans (hb2.mono b1.size)⟩

/-- What LastAt answers. -/
def LAns (l : List Ch) (t r : Int) (x : Int) : Prop := (¬ (storeOk l ∧ tabB t = true) ∧ x = -1) ∨ ((storeOk l ∧ tabB t = true) ∧ IsLastAt l t r x)
theorem LAns.one {l : List Ch} {t r x y : Int} (hx : LAns l t r x) (hy : LAns l t r y) : x = y := by
  rcases hx with ⟨h1, rfl⟩ | ⟨h1, hx⟩ <;> rcases hy with ⟨g1, rfl⟩ | ⟨g1, hy⟩
  · rfl
  · exact absurd g1 h1
  · exact absurd h1 g1
  · exact hx.one hy

theorem field_at (x y : Int) (w : World) : (Instr.field 123 (.agg #[.int .i64 x, .int .i64 y]) 0).run Tryz.prog w = .ok (.int .i64 x) w := by kernel_rfl

end Go.Proofs.YtmecbppblbmchaaGreatDoor

/- The last version of a list, as the program reads it. -/
namespace Go.Proofs.YtmecbppblbmchaaGreatDoor
open Go.ChangeShapes Go.WideShapes Go.ChangeAt Go.RowKit Go.Sort
set_option linter.unusedVariables false
set_option maxRecDepth 100000

def lastH (l : List Vr) : Int := (vAt l (l.length - 1)).1
theorem verAt_last (v : Value) (l : List Vr) (w : World) {lo hi : Nat} (hl : VersAt lo hi w v l) (ho : versOk l) :
    Calls Tryz.prog 119 #[v, .int .i64 1000000] w fun e w' => e = .returned (.agg #[.int .i64 (lastH l), .int .i64 (vAt l (l.length - 1)).2]) ∧ Below w.heap.size w w' := by
  refine (verAt_any v l 1000000 w hl).mono ?_
  rintro e w' ⟨k, rfl, hk, hb⟩
  obtain ⟨h1, h2, h3⟩ := hk
  have e : k = l.length := by
    rcases Nat.lt_or_ge k l.length with hlt | hge
    · have := h3 hlt
      have := (ho.2.2 k hlt).2.1
      omega
    · omega
  subst e
  have hp := ho.1
  refine ⟨?_, hb⟩
  simp only [rdV, lastH]
  rw [if_neg (by omega)]


end Go.Proofs.YtmecbppblbmchaaGreatDoor
