import Derived.Test.YtmecbppblbmchaaGreatDoorOwn
import Derived.Test.YtmecbppblbmchaaGreatDoorRead
import Derived.Deep.AppendLies
import Derived.Test.YtmecbppblbmchaaGreatDoorKey0s
/- Rows that a call owns. -/
namespace Go.Proofs.YtmecbppblbmchaaGreatDoor
open Go.ChangeShapes Go.WideShapes Go.ChangeAt Go.RowKit Go.Sort
set_option linter.unusedVariables false
set_option maxRecDepth 100000
attribute [local go_sem ↓] Go.wp_at_zero Go.wp_at_succ

structure Rw where
  t : Int
  r : Int
  v : Int
def rw0 : Rw := ⟨0, 0, 0⟩
def rAt (l : List Rw) (i : Nat) : Rw := l.getD i rw0
def cells3 (x : Rw) : List Value := [.int .i64 x.t, .int .i64 x.r, .int .i64 x.v]
def flat (l : List Rw) : List Value := l.flatMap cells3

theorem flat_length (l : List Rw) : (flat l).length = l.length * 3 := by
  induction l with
  | nil => rfl
  | cons x l ih => simp only [flat, List.flatMap_cons, List.length_append, List.length_cons] at *; rw [ih]; simp [cells3]; omega
theorem flat_snoc (l : List Rw) (x : Rw) : flat (l ++ [x]) = flat l ++ cells3 x := by simp [flat]
theorem flat_get : ∀ (l : List Rw) (i : Nat), i < l.length → (flat l)[i * 3]? = some (.int .i64 (rAt l i).t) ∧ (flat l)[i * 3 + 1]? = some (.int .i64 (rAt l i).r) ∧ (flat l)[i * 3 + 2]? = some (.int .i64 (rAt l i).v)
  | [], i, h => absurd h (Nat.not_lt_zero _)
  | x :: l, 0, h => by simp [flat, cells3, rAt]
  | x :: l, i + 1, h => by
    obtain ⟨h1, h2, h3⟩ := flat_get l i (by simpa using h)
    have e : flat (x :: l) = .int .i64 x.t :: .int .i64 x.r :: .int .i64 x.v :: flat l := by simp [flat, cells3]
    rw [e]
    refine ⟨?_, ?_, ?_⟩
    · rw [show (i + 1) * 3 = i * 3 + 1 + 1 + 1 by omega]; simpa [rAt] using h1
    · rw [show (i + 1) * 3 + 1 = i * 3 + 1 + 1 + 1 + 1 by omega]; simpa [rAt] using h2
    · rw [show (i + 1) * 3 + 2 = i * 3 + 2 + 1 + 1 + 1 by omega]; simpa [rAt] using h3

/-- The slice v holds the rows l, in a block of its own from base on. -/
def OwnR (base : Nat) (w : World) (v : Value) (l : List Rw) : Prop :=
  (v = .slice none 0 0 ∧ l = []) ∨ ∃ g cap f, v = .slice (some ⟨g, 0, none⟩) l.length cap ∧ base ≤ g ∧ RowOf w g 111 (l.length * 3) f ∧ ∀ i, i < l.length → f (i * 3) = .int .i64 (rAt l i).t ∧ f (i * 3 + 1) = .int .i64 (rAt l i).r ∧ f (i * 3 + 2) = .int .i64 (rAt l i).v

theorem OwnR.of_ownsRow {base : Nat} {w : World} {v : Value} {l : List Rw} (h : w.ownsRow base 111 3 v l.length (flat l)) : OwnR base w v l := by
  obtain ⟨h1, h2⟩ := h
  rcases h2 with ⟨rfl, h3⟩ | ⟨g, cap, cur, rfl, h4, h5, h6, h7, h8, h9⟩
  · exact .inl ⟨rfl, by simpa using h3⟩
  · have hget : ∀ j, j < l.length * 3 → cur[j]? = (flat l)[j]? := fun j hj => by
      rw [← h9, List.getElem?_take, if_pos hj]; simp
    refine .inr ⟨g, cap, fun j => ((flat l)[j]?).getD (.int .i64 0), rfl, h4, ⟨cur, h5, by rw [h8]; exact Nat.mul_le_mul_right 3 h6, fun j hj => ?_⟩, fun i hi => ?_⟩
    · rw [hget j hj]
      have : j < (flat l).length := by rw [flat_length]; exact hj
      simp [List.getElem?_eq_getElem this]
    · obtain ⟨g1, g2, g3⟩ := flat_get l i hi
      simp only [g1, g2, g3, Option.getD_some]
      exact ⟨trivial, trivial, trivial⟩

theorem OwnR.keep {base : Nat} {w w' : World} {v : Value} {l : List Rw} (h : OwnR base w v l) (hs : ∀ k, base ≤ k → k < w.heap.size → w'.heap[k]? = w.heap[k]?) : OwnR base w' v l := by
  rcases h with h | ⟨g, cap, f, h1, h2, h3, h4⟩
  · exact .inl h
  · exact .inr ⟨g, cap, f, h1, h2, h3.of_block (hs g h2 h3.lt), h4⟩
theorem OwnR.stays {base : Nat} {w w' : World} {v : Value} {l : List Rw} (h : OwnR base w v l) (hb : Below w.heap.size w w') : OwnR base w' v l := h.keep fun k _ hk => hb.block k hk

end Go.Proofs.YtmecbppblbmchaaGreatDoor

/- Rows that a call owns; the same rows are the same. -/
namespace Go.Proofs.YtmecbppblbmchaaGreatDoor
open Go.ChangeShapes Go.WideShapes Go.ChangeAt Go.RowKit Go.Sort
set_option linter.unusedVariables false
set_option maxRecDepth 100000
attribute [local go_sem ↓] Go.wp_at_zero Go.wp_at_succ

theorem eqRow_same (t r v : Int) (w : World) :
    Calls Tryz.prog 144 #[.agg #[.int .i64 t, .int .i64 r, .int .i64 v], .agg #[.int .i64 t, .int .i64 r, .int .i64 v]] w fun e w' => e = .returned (.bool true) ∧ Below w.heap.size w w' := by
  have hbx : Below w.heap.size w ((w.alloc (Obj.cells #[.int .i64 t, .int .i64 r, .int .i64 v] 111)).alloc (Obj.cells #[.int .i64 t, .int .i64 r, .int .i64 v] 111)) := ((Below.refl _ _).alloc (Nat.le_refl _) _).alloc (by simp) _
  go_enter Tryz.func144, Tryz.ntmps144
  go_wp2_with (first | (go_at_call 115; refine (eqKey_same _ _ _).mono ?_; rintro e w1 ⟨rfl, hb1⟩; obtain ⟨hc1, hf1⟩ := bcell hb1))
  go_ret
  exact ⟨rfl, hbx.trans (hb1.mono hbx.size)⟩

theorem eqRowS_same (v v' : Value) (l : List Rw) (w : World) {b b' : Nat} (h : OwnR b w v l) (h' : OwnR b' w v' l) (hn : l.length ≤ 1048576) :
    Calls Tryz.prog 114 #[v, v'] w fun e w' => e = .returned (.bool true) ∧ Below w.heap.size w w' := by
  obtain ⟨a, cap, rfl, hc⟩ : ∃ a cap, v = .slice a l.length cap ∧ (0 < l.length → ∃ g f, a = some ⟨g, 0, none⟩ ∧ RowOf w g 111 (l.length * 3) f ∧ ∀ i, i < l.length → f (i * 3) = .int .i64 (rAt l i).t ∧ f (i * 3 + 1) = .int .i64 (rAt l i).r ∧ f (i * 3 + 2) = .int .i64 (rAt l i).v) := by
    rcases h with ⟨rfl, rfl⟩ | ⟨g, cap, f, rfl, _, h3, h4⟩
    · exact ⟨none, 0, rfl, fun h => absurd h (Nat.lt_irrefl _)⟩
    · exact ⟨_, _, rfl, fun _ => ⟨g, f, rfl, h3, h4⟩⟩
  obtain ⟨a', cap', rfl, hc'⟩ : ∃ a cap, v' = .slice a l.length cap ∧ (0 < l.length → ∃ g f, a = some ⟨g, 0, none⟩ ∧ RowOf w g 111 (l.length * 3) f ∧ ∀ i, i < l.length → f (i * 3) = .int .i64 (rAt l i).t ∧ f (i * 3 + 1) = .int .i64 (rAt l i).r ∧ f (i * 3 + 2) = .int .i64 (rAt l i).v) := by
    rcases h' with ⟨rfl, rfl⟩ | ⟨g, cap, f, rfl, _, h3, h4⟩
    · exact ⟨none, 0, rfl, fun h => absurd h (Nat.lt_irrefl _)⟩
    · exact ⟨_, _, rfl, fun _ => ⟨g, f, rfl, h3, h4⟩⟩
  go_enter Tryz.func114, Tryz.ntmps114
  go_wp2
  go_loopw [5] (fun i wr => ∃ k : Nat, k ≤ l.length ∧ i = .int .i64 k ∧ Below w.heap.size w wr) (fun i _ => l.length - (intOf i).toNat)
  case atStart => exact ⟨0, Nat.zero_le _, rfl, Below.refl _ _⟩
  case round =>
    obtain ⟨k, hk, rfl, hb⟩ := hrel
    by_cases hlt : k < l.length
    · obtain ⟨g, f, rfl, hr, hf⟩ := hc (by omega)
      obtain ⟨g', f', rfl, hr', hf'⟩ := hc' (by omega)
      obtain ⟨e0, e1, e2⟩ := hf k hlt
      obtain ⟨e0', e1', e2'⟩ := hf' k hlt
      have c0 := cell_stays hb (hr.cell (show k * 3 < l.length * 3 by omega))
      have c1 := cell_stays hb (hr.cell (show k * 3 + 1 < l.length * 3 by omega))
      have c2 := cell_stays hb (hr.cell (show k * 3 + 2 < l.length * 3 by omega))
      have d0 := cell_stays hb (hr'.cell (show k * 3 < l.length * 3 by omega))
      have d1 := cell_stays hb (hr'.cell (show k * 3 + 1 < l.length * 3 by omega))
      have d2 := cell_stays hb (hr'.cell (show k * 3 + 2 < l.length * 3 by omega))
      rw [e0] at c0; rw [e1] at c1; rw [e2] at c2; rw [e0'] at d0; rw [e1'] at d1; rw [e2'] at d2
      have i0 : (0 : Int) ≤ (k : Int) := by omega
      have i1 : (k : Int) < (l.length : Int) := by omega
      clear hc hc' hf hf' hr hr' e0 e1 e2 e0' e1' e2'
      go_wp2_with fail
      go_region_held3 (fun x => Below w.heap.size w x ∧ x.cell? ⟨g, k * 3, none⟩ = some (.int .i64 (rAt l k).t) ∧ x.cell? ⟨g, k * 3 + 1, none⟩ = some (.int .i64 (rAt l k).r) ∧ x.cell? ⟨g, k * 3 + 2, none⟩ = some (.int .i64 (rAt l k).v) ∧ x.cell? ⟨g', k * 3, none⟩ = some (.int .i64 (rAt l k).t) ∧ x.cell? ⟨g', k * 3 + 1, none⟩ = some (.int .i64 (rAt l k).r) ∧ x.cell? ⟨g', k * 3 + 2, none⟩ = some (.int .i64 (rAt l k).v))
        (first | exact six_kept (by assumption) hb1 | exact ⟨hb.drew, c0, c1, c2, d0, d1, d2⟩)
        (first | (go_at_call 144; refine (eqRow_same _ _ _ _).mono ?_; rintro e w1 ⟨rfl, hb1⟩))
      rename_i hH
      go_wp2
      go_roundw
      case rel => exact ⟨k + 1, by omega, by go_num, hH.1⟩
      case measure => simp [intOf]; omega
    · go_wp2
      go_ret
      exact ⟨rfl, hb⟩

end Go.Proofs.YtmecbppblbmchaaGreatDoor

/- Rows that a call owns: read, marked, held; the same rows are the same. -/
namespace Go.Proofs.YtmecbppblbmchaaGreatDoor
open Go.ChangeShapes Go.WideShapes Go.ChangeAt Go.RowKit Go.Sort
set_option linter.unusedVariables false
set_option maxRecDepth 100000
attribute [local go_sem ↓] Go.wp_at_zero Go.wp_at_succ

/-- Rows that bear the marks from k on. -/
def MarkedR (w : World) (v : Value) (n k : Nat) : Prop := (v = .slice none 0 0 ∧ n = 0) ∨ ∃ g cap, v = .slice (some ⟨g, 0, none⟩) n cap ∧ RowOf w g 111 (n * 3) (fun j => .int .i64 ((k + j : Nat) : Int))

theorem MarkedR.keep {base : Nat} {w w' : World} {v : Value} {n k : Nat} (h : MarkedR w v n k) (hb : Below w.heap.size w w') : MarkedR w' v n k := by
  rcases h with h | ⟨g, cap, h1, h2⟩
  · exact .inl h
  · exact .inr ⟨g, cap, h1, h2.of_block (hb.block _ h2.lt)⟩

theorem markRowS_any (v : Value) (l : List Rw) (k : Nat) (w : World) {base : Nat} (h : OwnR base w v l) (hn : l.length ≤ 1048576) (hk : k ≤ 4611686018427387904) :
    Calls Tryz.prog 76 #[v, .int .i64 k] w fun e w' => e = .returned (.int .i64 ((k + 3 * l.length : Nat) : Int)) ∧ Wrote (fun b => base ≤ b) w w' ∧ MarkedR w' v l.length k := by
  rcases h with ⟨rfl, rfl⟩ | ⟨B, c, g, rfl, hbase, hr, _⟩
  · go_enter Tryz.func76, Tryz.ntmps76
    go_wp2
    refine wp_loop_rounds 1 ?_
    rw [rounds_succ]
    go_wp2
    go_ret
    exact ⟨rfl, Wrote.refl _ _, .inl ⟨rfl, rfl⟩⟩
  · generalize l.length = m at hr hn ⊢
    go_enter Tryz.func76, Tryz.ntmps76
    go_wp2
    go_loopw [1, 5] (fun x i wr => ∃ (q : Nat) (g' : Nat → Value), q ≤ m ∧ i = .int .i64 q ∧ x = .int .i64 ((k + 3 * q : Nat) : Int) ∧ Wrote (fun b => base ≤ b) w wr ∧ RowOf wr B 111 (m * 3) g' ∧ ∀ j, j < 3 * q → g' j = .int .i64 ((k + j : Nat) : Int)) (fun _ i _ => m - (intOf i).toNat)
    case atStart => exact ⟨0, g, Nat.zero_le _, rfl, rfl, Wrote.refl _ _, hr, fun j hj => absurd hj (by omega)⟩
    case round =>
      obtain ⟨q, g', hq, rfl, rfl, hw, hrow, hg⟩ := hrel
      by_cases hlt : q < m
      · have z0 := hrow.cell (show q * 3 < m * 3 by omega)
        have z1 := hrow.frozen (q * 3)
        have z2 := hrow.cell (show q * 3 + 1 < m * 3 by omega)
        have z3 := hrow.frozen (q * 3 + 1)
        have z4 := hrow.cell (show q * 3 + 2 < m * 3 by omega)
        have z5 := hrow.frozen (q * 3 + 2)
        go_wp2
        go_roundw
        case rel =>
          refine ⟨q + 1, _, by omega, by go_num, ?_, ((hw.setCell hbase _).setCell hbase _).setCell hbase _, ((hrow.set _ _).set _ _).set _ _, fun j hj => ?_⟩
          · congr 1
          · by_cases e2 : j = q * 3 + 2
            · subst e2; simp; omega
            · by_cases e1 : j = q * 3 + 1
              · subst e1; simp; omega
              · by_cases e0 : j = q * 3
                · subst e0; simp; omega
                · simp only [if_neg e2, if_neg e1, if_neg e0]; exact hg j (by omega)
        case measure => simp [intOf]; omega
      · have hqm : q = m := by omega
        subst hqm
        go_wp2
        go_ret
        exact ⟨rfl, hw, .inr ⟨B, c, rfl, hrow.congr fun j hj => hg j (by omega)⟩⟩

theorem heldRowS_any (v : Value) (n : Nat) (k : Nat) (w : World) (h : MarkedR w v n k) (hn : n ≤ 1048576) (hk : k ≤ 4611686018427387904) :
    Calls Tryz.prog 78 #[v, .int .i64 k] w fun e w' => e = .returned (.int .i64 ((k + 3 * n : Nat) : Int)) ∧ w' = w := by
  rcases h with ⟨rfl, rfl⟩ | ⟨B, c, rfl, hr⟩
  · go_enter Tryz.func78, Tryz.ntmps78
    go_wp2
    refine wp_loop_rounds 1 ?_
    rw [rounds_succ]
    go_wp2
    go_ret
    exact ⟨rfl, rfl⟩
  · go_enter Tryz.func78, Tryz.ntmps78
    go_wp2
    go_loop [1, 5] (fun x i => ∃ q : Nat, q ≤ n ∧ i = .int .i64 q ∧ x = .int .i64 ((k + 3 * q : Nat) : Int)) (fun _ i => n - (intOf i).toNat)
    case atStart => exact ⟨0, Nat.zero_le _, rfl, rfl⟩
    case round =>
      obtain ⟨q, hq, rfl, rfl⟩ := hrel
      by_cases hlt : q < n
      · have z0 : w.cell? ⟨B, q * 3, none⟩ = some (.int .i64 (↑k + 3 * ↑q)) := by rw [hr.cell (by omega)]; simp; omega
        have z1 : w.cell? ⟨B, q * 3 + 1, none⟩ = some (.int .i64 (↑k + 3 * ↑q + 1)) := by rw [hr.cell (by omega)]; simp; omega
        have z2 : w.cell? ⟨B, q * 3 + 2, none⟩ = some (.int .i64 (↑k + 3 * ↑q + 1 + 1)) := by rw [hr.cell (by omega)]; simp; omega
        go_wp2
        go_round
        case rel => exact ⟨q + 1, by omega, by go_num, by go_num⟩
        case measure => simp [intOf]; omega
      · have hqm : q = n := by omega
        subst hqm
        go_wp2
        go_ret
        exact ⟨rfl, rfl⟩

end Go.Proofs.YtmecbppblbmchaaGreatDoor

/- heldVerS, heldChainS, heldStore: the marks stand; and the same of a store with no chain. -/
namespace Go.Proofs.YtmecbppblbmchaaGreatDoor
open Go.ChangeShapes Go.WideShapes Go.ChangeAt Go.RowKit Go.Sort
set_option linter.unusedVariables false
set_option maxRecDepth 100000
attribute [local go_sem ↓] Go.wp_at_zero Go.wp_at_succ

theorem heldVerS_any (B m c : Nat) (g : Nat → Value) (x : Int) (k : Nat) (hx : x = (k : Int)) (w : World) (hr : RowOf w B 123 (m * 2) g) (hg : ∀ j, j < m * 2 → g j = .int .i64 ((k + j : Nat) : Int)) (hm : m ≤ 1048576) (hk : k ≤ 4611686018427387904) :
    Calls Tryz.prog 117 #[.slice (some ⟨B, 0, none⟩) m c, .int .i64 x] w fun e w' => e = .returned (.int .i64 ((k + 2 * m : Nat) : Int)) ∧ w' = w := by
  subst hx
  go_enter Tryz.func117, Tryz.ntmps117
  go_wp2
  go_loop [1, 5] (fun x i => ∃ q : Nat, q ≤ m ∧ i = .int .i64 q ∧ x = .int .i64 ((k + 2 * q : Nat) : Int)) (fun _ i => m - (intOf i).toNat)
  case atStart => exact ⟨0, Nat.zero_le _, rfl, rfl⟩
  case round =>
    obtain ⟨q, hq, rfl, rfl⟩ := hrel
    by_cases hlt : q < m
    · have z0 : w.cell? ⟨B, q * 2, none⟩ = some (.int .i64 (↑k + 2 * ↑q)) := by rw [hr.cell (by omega), hg _ (by omega)]; simp; omega
      have z1 : w.cell? ⟨B, q * 2 + 1, none⟩ = some (.int .i64 (↑k + 2 * ↑q + 1)) := by rw [hr.cell (by omega), hg _ (by omega)]; simp; omega
      clear hg
      go_wp2
      go_round
      case rel => exact ⟨q + 1, by omega, by go_num, by go_num⟩
      case measure => simp [intOf]; omega
    · have hqm : q = m := by omega
      subst hqm
      clear hg
      go_wp2
      go_ret
      exact ⟨rfl, rfl⟩

theorem heldChainS_any (b : Nat) (Bs : Nat → Nat) (l : List Ch) (c : Nat) (k : Nat) (w : World) {lo hi : Nat} (h : MarkedC lo hi w b Bs l k l.length) (hn : Small l) (hk : k ≤ 1000) :
    Calls Tryz.prog 77 #[.slice (some ⟨b, 0, none⟩) l.length c, .int .i64 k] w fun e w' => e = .returned (.int .i64 ((k + mk l l.length : Nat) : Int)) ∧ w' = w := by
  obtain ⟨f, h3, h4⟩ := h
  have hn1 := hn.1
  go_enter Tryz.func77, Tryz.ntmps77
  go_wp2
  go_loop [1, 5] (fun x i => ∃ (q : Nat), q ≤ l.length ∧ i = .int .i64 q ∧ x = .int .i64 ((k + mk l q : Nat) : Int)) (fun _ i => l.length - (intOf i).toNat)
  case atStart => exact ⟨0, Nat.zero_le _, rfl, rfl⟩
  case round =>
    obtain ⟨q, hq, rfl, rfl⟩ := hrel
    have hb := mk_bound hn hq
    by_cases hlt : q < l.length
    · obtain ⟨⟨cq, eq⟩, gq, hrq, hm⟩ := h4 q hlt
      obtain ⟨m1, m2, m3⟩ := hm hlt
      have z0 : w.cell? ⟨b, q * 3, none⟩ = some (.int .i64 (↑k + ↑(mk l q))) := by rw [h3.cell (by omega), m1]; simp
      have z1 : w.cell? ⟨b, q * 3 + 1, none⟩ = some (.int .i64 (↑k + ↑(mk l q) + 1)) := by rw [h3.cell (by omega), m2]; simp
      have z2 := h3.cell (show q * 3 + 2 < l.length * 3 by omega)
      rw [eq] at z2
      have hnq := hn.2 q hlt
      clear h4 hm m1 m2 eq
      go_wp2_with (go_at_call 117; refine (heldVerS_any _ _ _ gq _ (k + mk l q + 2) (by omega) _ hrq m3 hnq (by omega)).mono ?_; rintro e w1 ⟨rfl, rfl⟩)
      go_round
      case rel => exact ⟨q + 1, by omega, by go_num, by congr 1; simp only [mk]; omega⟩
      case measure => simp [intOf]; omega
    · have hqm : q = l.length := by omega
      subst hqm
      clear h4
      go_wp2
      go_ret
      exact ⟨rfl, rfl⟩

theorem heldStore_any (b : Nat) (Bs : Nat → Nat) (l : List Ch) (c : Nat) (k : Nat) (w : World) {lo hi : Nat} (h : ∀ o, MarkedC lo hi (w.alloc o) b Bs l k l.length) (hn : Small l) (hk : k ≤ 1000) :
    Calls Tryz.prog 42 #[.agg #[.slice (some ⟨b, 0, none⟩) l.length c], .int .i64 k] w fun e w' => e = .returned (.int .i64 ((k + mk l l.length : Nat) : Int)) ∧ Below w.heap.size w w' := by
  have hb := mk_bound hn (Nat.le_refl _)
  go_enter Tryz.func42, Tryz.ntmps42
  go_wp2_with (go_at_call 77; refine (heldChainS_any b Bs l c k _ (h _) hn hk).mono ?_; rintro e w1 ⟨rfl, rfl⟩)
  go_ret
  exact ⟨rfl, (Below.refl _ _).alloc (Nat.le_refl _) _⟩

theorem markChainS_nil (k : Nat) (w : World) : Calls Tryz.prog 75 #[.slice none 0 0, .int .i64 k] w fun e w' => e = .returned (.int .i64 (k : Int)) ∧ w' = w := by
  go_enter Tryz.func75, Tryz.ntmps75
  go_wp2
  refine wp_loop_rounds 1 ?_
  rw [rounds_succ]
  go_wp2
  go_ret
  exact ⟨rfl, rfl⟩
theorem heldChainS_nil (k : Nat) (w : World) : Calls Tryz.prog 77 #[.slice none 0 0, .int .i64 k] w fun e w' => e = .returned (.int .i64 (k : Int)) ∧ w' = w := by
  go_enter Tryz.func77, Tryz.ntmps77
  go_wp2
  refine wp_loop_rounds 1 ?_
  rw [rounds_succ]
  go_wp2
  go_ret
  exact ⟨rfl, rfl⟩
theorem markStore_nil (k : Nat) (w : World) : Calls Tryz.prog 39 #[.agg #[.slice none 0 0], .int .i64 k] w fun e w' => e = .returned (.int .i64 (k : Int)) ∧ Below w.heap.size w w' := by
  go_enter Tryz.func39, Tryz.ntmps39
  go_wp2_with (go_at_call 75; refine (markChainS_nil k _).mono ?_; rintro e w1 ⟨rfl, rfl⟩)
  go_ret
  exact ⟨rfl, (Below.refl _ _).alloc (Nat.le_refl _) _⟩
theorem heldStore_nil (k : Nat) (w : World) : Calls Tryz.prog 42 #[.agg #[.slice none 0 0], .int .i64 k] w fun e w' => e = .returned (.int .i64 (k : Int)) ∧ Below w.heap.size w w' := by
  have hk0 : ¬ (k : Int) < 0 := by omega
  go_enter Tryz.func42, Tryz.ntmps42
  go_wp2_with (go_at_call 77; refine (heldChainS_nil k _).mono ?_; rintro e w1 ⟨rfl, rfl⟩)
  go_ret
  exact ⟨rfl, (Below.refl _ _).alloc (Nat.le_refl _) _⟩

end Go.Proofs.YtmecbppblbmchaaGreatDoor
