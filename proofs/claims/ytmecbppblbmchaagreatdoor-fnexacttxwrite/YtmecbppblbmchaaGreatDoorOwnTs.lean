import Derived.Test.YtmecbppblbmchaaGreatDoorOwn
import Derived.Test.YtmecbppblbmchaaGreatDoorLastV
import Derived.Test.YtmecbppblbmchaaGreatDoorStoreOf2
import Derived.Test.YtmecbppblbmchaaGreatDoorRead
/- Marking a store that a call owns: nothing else is written. -/
namespace Go.Proofs.YtmecbppblbmchaaGreatDoor
open Go.ChangeShapes Go.WideShapes Go.ChangeAt Go.RowKit
set_option linter.unusedVariables false
set_option maxRecDepth 100000
attribute [local go_sem ↓] Go.wp_at_zero Go.wp_at_succ

/-- Only blocks of p may have been written; none is new. -/
structure Wrote (p : Nat → Prop) (w w' : World) : Prop where
  os : w'.os = w.os
  tape : w'.tape = w.tape
  output : w'.output = w.output
  size : w'.heap.size = w.heap.size
  block : ∀ k, ¬ p k → w'.heap[k]? = w.heap[k]?

theorem Wrote.refl (p : Nat → Prop) (w : World) : Wrote p w w := ⟨rfl, rfl, rfl, rfl, fun _ _ => rfl⟩
theorem Wrote.trans {p : Nat → Prop} {a b c : World} (h : Wrote p a b) (k : Wrote p b c) : Wrote p a c :=
  ⟨k.os.trans h.os, k.tape.trans h.tape, k.output.trans h.output, k.size.trans h.size, fun i hi => (k.block i hi).trans (h.block i hi)⟩
theorem Wrote.setCell {p : Nat → Prop} {a w : World} (h : Wrote p a w) {x : Addr} (hx : p x.block) (u : Value) : Wrote p a (w.setCell x u) :=
  h.trans ⟨rfl, rfl, rfl, by simp [World.setCell], fun k hk => Below.heap_setCell _ _ _ _ (fun e => hk (e ▸ hx))⟩
theorem Wrote.imp {p q : Nat → Prop} {a w : World} (h : Wrote p a w) (hpq : ∀ k, p k → q k) : Wrote q a w :=
  ⟨h.os, h.tape, h.output, h.size, fun k hk => h.block k (fun hp => hk (hpq k hp))⟩
theorem Wrote.below {p : Nat → Prop} {a w : World} {B : Nat} (h : Wrote p a w) (hp : ∀ k, p k → B ≤ k) : Below B a w :=
  ⟨h.os, h.tape, h.output, by rw [h.size]; exact Nat.le_refl _, fun k hk => h.block k (fun h' => by have := hp k h'; omega)⟩

theorem markVerS_any (B m c : Nat) (g : Nat → Value) (k : Nat) (w : World) (hr : RowOf w B 123 (m * 2) g) (hm : m ≤ 1048576) (hk : k ≤ 4611686018427387904) :
    Calls Tryz.prog 116 #[.slice (some ⟨B, 0, none⟩) m c, .int .i64 k] w fun e w' => e = .returned (.int .i64 ((k + 2 * m : Nat) : Int)) ∧ Wrote (fun b => b = B) w w' ∧ RowOf w' B 123 (m * 2) (fun j => .int .i64 ((k + j : Nat) : Int)) := by
  go_enter Tryz.func116, Tryz.ntmps116
  go_wp2
  go_loopw [1, 5] (fun x i wr => ∃ (q : Nat) (g' : Nat → Value), q ≤ m ∧ i = .int .i64 q ∧ x = .int .i64 ((k + 2 * q : Nat) : Int) ∧ Wrote (fun b => b = B) w wr ∧ RowOf wr B 123 (m * 2) g' ∧ ∀ j, j < 2 * q → g' j = .int .i64 ((k + j : Nat) : Int)) (fun _ i _ => m - (intOf i).toNat)
  case atStart => exact ⟨0, g, Nat.zero_le _, rfl, rfl, Wrote.refl _ _, hr, fun j hj => absurd hj (by omega)⟩
  case round =>
    obtain ⟨q, g', hq, rfl, rfl, hw, hrow, hg⟩ := hrel
    by_cases hlt : q < m
    · have z0 := hrow.cell (show q * 2 < m * 2 by omega)
      have z1 := hrow.frozen (q * 2)
      have z2 := hrow.cell (show q * 2 + 1 < m * 2 by omega)
      have z3 := hrow.frozen (q * 2 + 1)
      go_wp2
      go_roundw
      case rel =>
        refine ⟨q + 1, _, by omega, by go_num, ?_, (hw.setCell rfl _).setCell rfl _, (hrow.set _ _).set _ _, fun j hj => ?_⟩
        · congr 1
        · by_cases e1 : j = q * 2 + 1
          · subst e1; simp; omega
          · by_cases e2 : j = q * 2
            · subst e2; simp; omega
            · simp only [if_neg e1, if_neg e2]; exact hg j (by omega)
      case measure => simp [intOf]; omega
    · have hqm : q = m := by omega
      subst hqm
      go_wp2
      go_ret
      exact ⟨rfl, hw, hrow.congr fun j hj => hg j (by omega)⟩

theorem markVerS_at (B m c : Nat) (g : Nat → Value) (x : Int) (k : Nat) (hx : x = (k : Int)) (w : World) (hr : RowOf w B 123 (m * 2) g) (hm : m ≤ 1048576) (hk : k ≤ 4611686018427387904) :
    Calls Tryz.prog 116 #[.slice (some ⟨B, 0, none⟩) m c, .int .i64 x] w fun e w' => e = .returned (.int .i64 ((k + 2 * m : Nat) : Int)) ∧ Wrote (fun b => b = B) w w' ∧ RowOf w' B 123 (m * 2) (fun j => .int .i64 ((k + j : Nat) : Int)) := by
  subst hx
  exact markVerS_any B m c g k w hr hm hk

/-- How many marks lie ahead of the i-th chain. -/
def mk (l : List Ch) : Nat → Nat
  | 0 => 0
  | i + 1 => mk l i + 2 + 2 * (cAt l i).l.length

theorem mk_le {l : List Ch} (hn : Small l) : ∀ i, i ≤ l.length → mk l i ≤ i * 2097154
  | 0, _ => by simp [mk]
  | i + 1, hi => by
    have h1 := mk_le hn i (by omega)
    have h2 := hn.2 i (by omega)
    simp only [mk]
    omega

theorem mk_bound {l : List Ch} (hn : Small l) {i : Nat} (hi : i ≤ l.length) : mk l i ≤ 2199025352704 := by
  have h1 := mk_le hn i hi
  have h2 := hn.1
  omega

/-- The store bears the marks from k on. -/
def MarkedC (lo hi : Nat) (w : World) (b : Nat) (Bs : Nat → Nat) (l : List Ch) (k n : Nat) : Prop :=
  ∃ f, RowOf w b 94 (l.length * 3) f ∧
    (∀ i, i < l.length → (∃ c, f (i * 3 + 2) = .slice (some ⟨Bs i, 0, none⟩) (cAt l i).l.length c) ∧ ∃ g, RowOf w (Bs i) 123 ((cAt l i).l.length * 2) g ∧
      (i < n → f (i * 3) = .int .i64 ((k + mk l i : Nat) : Int) ∧ f (i * 3 + 1) = .int .i64 ((k + mk l i + 1 : Nat) : Int) ∧ ∀ j, j < (cAt l i).l.length * 2 → g j = .int .i64 ((k + mk l i + 2 + j : Nat) : Int)))

theorem markChainS_any (b : Nat) (Bs : Nat → Nat) (l : List Ch) (c : Nat) (k : Nat) (w : World) {lo hi : Nat} (h : OwnC lo hi w b Bs l) (hn : Small l) (hk : k ≤ 1000) :
    Calls Tryz.prog 75 #[.slice (some ⟨b, 0, none⟩) l.length c, .int .i64 k] w fun e w' => e = .returned (.int .i64 ((k + mk l l.length : Nat) : Int)) ∧ Wrote (fun x => lo ≤ x ∧ x < hi) w w' ∧ MarkedC lo hi w' b Bs l k l.length := by
  obtain ⟨h1, h2, f, h3, h4, h5⟩ := h
  have hn1 := hn.1
  go_enter Tryz.func75, Tryz.ntmps75
  go_wp2
  go_loopw [1, 5] (fun x i wr => ∃ (q : Nat), q ≤ l.length ∧ i = .int .i64 q ∧ x = .int .i64 ((k + mk l q : Nat) : Int) ∧ Wrote (fun x => lo ≤ x ∧ x < hi) w wr ∧ MarkedC lo hi wr b Bs l k q) (fun _ i _ => l.length - (intOf i).toNat)
  case atStart =>
    refine ⟨0, Nat.zero_le _, rfl, rfl, Wrote.refl _ _, f, h3, fun i hi => ?_⟩
    obtain ⟨g1, g2, g3, ⟨g, g4, _⟩, _⟩ := h4 i hi
    exact ⟨g3.imp fun _ h => h.2, g, g4, fun h => absurd h (Nat.not_lt_zero _)⟩
  case round =>
    obtain ⟨q, hq, rfl, rfl, hw, f', hrow, hin⟩ := hrel
    have hb := mk_bound hn hq
    by_cases hlt : q < l.length
    · have z0 := hrow.cell (show q * 3 < l.length * 3 by omega)
      have z1 := hrow.frozen (q * 3)
      have z2 := hrow.cell (show q * 3 + 1 < l.length * 3 by omega)
      have z3 := hrow.frozen (q * 3 + 1)
      have z4 := hrow.cell (show q * 3 + 2 < l.length * 3 by omega)
      obtain ⟨⟨cq, eq⟩, gq, hrq, _⟩ := hin q hlt
      rw [eq] at z4
      obtain ⟨_, _, _, _, l1, l2, l3⟩ := h4 q hlt
      have hnq := hn.2 q hlt
      have hrq' : RowOf ((wr.setCell ⟨b, q * 3, none⟩ (.int .i64 (↑k + ↑(mk l q)))).setCell ⟨b, q * 3 + 1, none⟩ (.int .i64 (↑k + ↑(mk l q) + 1))) (Bs q) 123 ((cAt l q).l.length * 2) gq := (hrq.setOther (by simpa using l3) _).setOther (by simpa using l3) _
      go_wp2_with fail
      refine (markVerS_at _ _ _ gq _ (k + mk l q + 2) (by omega) _ hrq' hnq (by omega)).mono ?_
      rintro e w1 ⟨rfl, hw1, hr1⟩
      have hne := l3
      go_wp2
      go_roundw
      case rel =>
        have hbb : w1.heap[b]? = ((wr.setCell ⟨b, q * 3, none⟩ (.int .i64 (↑k + ↑(mk l q)))).setCell ⟨b, q * 3 + 1, none⟩ (.int .i64 (↑k + ↑(mk l q) + 1))).heap[b]? := hw1.block b (fun e => hne e.symm)
        refine ⟨q + 1, by omega, by go_num, ?_, ((hw.setCell ⟨h1, h2⟩ _).setCell ⟨h1, h2⟩ _).trans (hw1.imp fun x hx => by subst hx; exact ⟨l1, l2⟩), _, ((hrow.set _ _).set _ _).of_block hbb, fun i hi => ?_⟩
        · congr 1; simp only [mk]; omega
        · obtain ⟨⟨ci, ei⟩, gi, hri, hmi⟩ := hin i hi
          obtain ⟨_, _, _, _, _, _, l3i⟩ := h4 i hi
          refine ⟨⟨ci, by rw [if_neg (by omega), if_neg (by omega)]; exact ei⟩, ?_⟩
          by_cases e : i = q
          · subst e
            exact ⟨_, hr1, fun _ => ⟨by simp, by simp, fun j hj => rfl⟩⟩
          · have hne2 : Bs i ≠ Bs q := by
              rcases Nat.lt_or_gt_of_ne e with hlt' | hgt
              · exact h5 i q hlt' hlt
              · exact fun e' => h5 q i hgt hi e'.symm
            refine ⟨gi, ((hri.setOther (by simpa using l3i) _).setOther (by simpa using l3i) _).of_block (hw1.block _ hne2), fun hlt' => ?_⟩
            obtain ⟨m1, m2, m3⟩ := hmi (by omega)
            exact ⟨by rw [if_neg (by omega), if_neg (by omega)]; exact m1, by rw [if_neg (by omega), if_neg (by omega)]; exact m2, m3⟩
      case measure => simp [intOf]; omega
    · have hqm : q = l.length := by omega
      subst hqm
      go_wp2
      go_ret
      exact ⟨rfl, hw, f', hrow, hin⟩

theorem markStore_any (b : Nat) (Bs : Nat → Nat) (l : List Ch) (c : Nat) (k : Nat) (w : World) {lo hi : Nat} (h : OwnC lo hi w b Bs l) (hn : Small l) (hk : k ≤ 1000) (hhi : hi ≤ w.heap.size) :
    Calls Tryz.prog 39 #[.agg #[.slice (some ⟨b, 0, none⟩) l.length c], .int .i64 k] w fun e w' => e = .returned (.int .i64 ((k + mk l l.length : Nat) : Int)) ∧ (∀ x, ¬ (lo ≤ x ∧ x < hi) → x < w.heap.size → w'.heap[x]? = w.heap[x]?) ∧ w'.os = w.os ∧ w'.tape = w.tape ∧ w'.output = w.output ∧ w.heap.size ≤ w'.heap.size ∧ MarkedC lo hi w' b Bs l k l.length := by
  have hb := mk_bound hn (Nat.le_refl _)
  go_enter Tryz.func39, Tryz.ntmps39
  go_wp2_with fail
  refine (markChainS_any b Bs l c k _ (h.stays ((Below.refl _ _).alloc (Nat.le_refl _) _)) hn hk).mono ?_
  rintro e w1 ⟨rfl, hw1, hm1⟩
  go_wp2
  go_ret
  refine ⟨rfl, fun x hx hlt => ?_, hw1.os, hw1.tape, hw1.output, ?_, hm1⟩
  · rw [hw1.block x hx, Below.heap_alloc _ _ _ hlt]
  · rw [hw1.size]; simp

end Go.Proofs.YtmecbppblbmchaaGreatDoor

/- Rows that a call owns; the same rows are the same. -/
namespace Go.Proofs.YtmecbppblbmchaaGreatDoor
open Go.ChangeShapes Go.WideShapes Go.ChangeAt Go.RowKit Go.Sort
set_option linter.unusedVariables false
set_option maxRecDepth 100000
attribute [local go_sem ↓] Go.wp_at_zero Go.wp_at_succ

theorem eqRow_same (t r v : Int) (w : World) :
    Calls Tryz.prog 144 #[.agg #[.int .i64 t, .int .i64 r, .int .i64 v], .agg #[.int .i64 t, .int .i64 r, .int .i64 v]] w fun e w' => e = .returned (.bool true) ∧ Below w.heap.size w w' := by
  have hbx : Below w.heap.size w ((w.alloc (Obj.cells #[.int .i64 t, .int .i64 r, .int .i64 v] 111)).alloc (Obj.cells #[.int .i64 t, .int .i64 r, .int .i64 v] 111)) := ((Below.refl _ _).alloc (Nat.le_refl _) _).alloc (by simp) _
  go_enter Tryz.func144, Tryz.ntmps144
  go_wp2_with (first | (go_at_call 115; refine (eqKey_same _ _ _).mono ?_; rintro e w1 ⟨rfl, hb1⟩; obtain ⟨hc1, hf1⟩ := bcell hb1))
  go_ret
  exact ⟨rfl, hbx.trans (hb1.mono hbx.size)⟩

theorem eqRowS_same (v v' : Value) (l : List Rw) (w : World) {b b' : Nat} (h : OwnR b w v l) (h' : OwnR b' w v' l) (hn : l.length ≤ 1048576) :
    Calls Tryz.prog 114 #[v, v'] w fun e w' => e = .returned (.bool true) ∧ Below w.heap.size w w' := by
  obtain ⟨a, cap, rfl, hc⟩ : ∃ a cap, v = .slice a l.length cap ∧ (0 < l.length → ∃ g f, a = some ⟨g, 0, none⟩ ∧ RowOf w g 111 (l.length * 3) f ∧ ∀ i, i < l.length → f (i * 3) = .int .i64 (rAt l i).t ∧ f (i * 3 + 1) = .int .i64 (rAt l i).r ∧ f (i * 3 + 2) = .int .i64 (rAt l i).v) := by
    rcases h with ⟨rfl, rfl⟩ | ⟨g, cap, f, rfl, _, h3, h4⟩
    · exact ⟨none, 0, rfl, fun h => absurd h (Nat.lt_irrefl _)⟩
    · exact ⟨_, _, rfl, fun _ => ⟨g, f, rfl, h3, h4⟩⟩
  obtain ⟨a', cap', rfl, hc'⟩ : ∃ a cap, v' = .slice a l.length cap ∧ (0 < l.length → ∃ g f, a = some ⟨g, 0, none⟩ ∧ RowOf w g 111 (l.length * 3) f ∧ ∀ i, i < l.length → f (i * 3) = .int .i64 (rAt l i).t ∧ f (i * 3 + 1) = .int .i64 (rAt l i).r ∧ f (i * 3 + 2) = .int .i64 (rAt l i).v) := by
    rcases h' with ⟨rfl, rfl⟩ | ⟨g, cap, f, rfl, _, h3, h4⟩
    · exact ⟨none, 0, rfl, fun h => absurd h (Nat.lt_irrefl _)⟩
    · exact ⟨_, _, rfl, fun _ => ⟨g, f, rfl, h3, h4⟩⟩
  go_enter Tryz.func114, Tryz.ntmps114
  go_wp2
  go_loopw [5] (fun i wr => ∃ k : Nat, k ≤ l.length ∧ i = .int .i64 k ∧ Below w.heap.size w wr) (fun i _ => l.length - (intOf i).toNat)
  case atStart => exact ⟨0, Nat.zero_le _, rfl, Below.refl _ _⟩
  case round =>
    obtain ⟨k, hk, rfl, hb⟩ := hrel
    by_cases hlt : k < l.length
    · obtain ⟨g, f, rfl, hr, hf⟩ := hc (by omega)
      obtain ⟨g', f', rfl, hr', hf'⟩ := hc' (by omega)
      obtain ⟨e0, e1, e2⟩ := hf k hlt
      obtain ⟨e0', e1', e2'⟩ := hf' k hlt
      have c0 := cell_stays hb (hr.cell (show k * 3 < l.length * 3 by omega))
      have c1 := cell_stays hb (hr.cell (show k * 3 + 1 < l.length * 3 by omega))
      have c2 := cell_stays hb (hr.cell (show k * 3 + 2 < l.length * 3 by omega))
      have d0 := cell_stays hb (hr'.cell (show k * 3 < l.length * 3 by omega))
      have d1 := cell_stays hb (hr'.cell (show k * 3 + 1 < l.length * 3 by omega))
      have d2 := cell_stays hb (hr'.cell (show k * 3 + 2 < l.length * 3 by omega))
      rw [e0] at c0; rw [e1] at c1; rw [e2] at c2; rw [e0'] at d0; rw [e1'] at d1; rw [e2'] at d2
      have i0 : (0 : Int) ≤ (k : Int) := by omega
      have i1 : (k : Int) < (l.length : Int) := by omega
      clear hc hc' hf hf' hr hr' e0 e1 e2 e0' e1' e2'
      go_wp2_with fail
      go_region_held3 (fun x => Below w.heap.size w x ∧ x.cell? ⟨g, k * 3, none⟩ = some (.int .i64 (rAt l k).t) ∧ x.cell? ⟨g, k * 3 + 1, none⟩ = some (.int .i64 (rAt l k).r) ∧ x.cell? ⟨g, k * 3 + 2, none⟩ = some (.int .i64 (rAt l k).v) ∧ x.cell? ⟨g', k * 3, none⟩ = some (.int .i64 (rAt l k).t) ∧ x.cell? ⟨g', k * 3 + 1, none⟩ = some (.int .i64 (rAt l k).r) ∧ x.cell? ⟨g', k * 3 + 2, none⟩ = some (.int .i64 (rAt l k).v))
        (first | exact six_kept (by assumption) hb1 | exact ⟨hb.drew, c0, c1, c2, d0, d1, d2⟩)
        (first | (go_at_call 144; refine (eqRow_same _ _ _ _).mono ?_; rintro e w1 ⟨rfl, hb1⟩))
      rename_i hH
      go_wp2
      go_roundw
      case rel => exact ⟨k + 1, by omega, by go_num, hH.1⟩
      case measure => simp [intOf]; omega
    · go_wp2
      go_ret
      exact ⟨rfl, hb⟩

end Go.Proofs.YtmecbppblbmchaaGreatDoor

/- Rows that a call owns: read, marked, held; the same rows are the same. -/
namespace Go.Proofs.YtmecbppblbmchaaGreatDoor
open Go.ChangeShapes Go.WideShapes Go.ChangeAt Go.RowKit Go.Sort
set_option linter.unusedVariables false
set_option maxRecDepth 100000
attribute [local go_sem ↓] Go.wp_at_zero Go.wp_at_succ

/-- Rows that bear the marks from k on. -/
def MarkedR (w : World) (v : Value) (n k : Nat) : Prop := (v = .slice none 0 0 ∧ n = 0) ∨ ∃ g cap, v = .slice (some ⟨g, 0, none⟩) n cap ∧ RowOf w g 111 (n * 3) (fun j => .int .i64 ((k + j : Nat) : Int))

theorem MarkedR.keep {base : Nat} {w w' : World} {v : Value} {n k : Nat} (h : MarkedR w v n k) (hb : Below w.heap.size w w') : MarkedR w' v n k := by
  rcases h with h | ⟨g, cap, h1, h2⟩
  · exact .inl h
  · exact .inr ⟨g, cap, h1, h2.of_block (hb.block _ h2.lt)⟩

theorem markRowS_any (v : Value) (l : List Rw) (k : Nat) (w : World) {base : Nat} (h : OwnR base w v l) (hn : l.length ≤ 1048576) (hk : k ≤ 4611686018427387904) :
    Calls Tryz.prog 76 #[v, .int .i64 k] w fun e w' => e = .returned (.int .i64 ((k + 3 * l.length : Nat) : Int)) ∧ Wrote (fun b => base ≤ b) w w' ∧ MarkedR w' v l.length k := by
  rcases h with ⟨rfl, rfl⟩ | ⟨B, c, g, rfl, hbase, hr, _⟩
  · go_enter Tryz.func76, Tryz.ntmps76
    go_wp2
    refine wp_loop_rounds 1 ?_
    rw [rounds_succ]
    go_wp2
    go_ret
    exact ⟨rfl, Wrote.refl _ _, .inl ⟨rfl, rfl⟩⟩
  · generalize l.length = m at hr hn ⊢
    go_enter Tryz.func76, Tryz.ntmps76
    go_wp2
    go_loopw [1, 5] (fun x i wr => ∃ (q : Nat) (g' : Nat → Value), q ≤ m ∧ i = .int .i64 q ∧ x = .int .i64 ((k + 3 * q : Nat) : Int) ∧ Wrote (fun b => base ≤ b) w wr ∧ RowOf wr B 111 (m * 3) g' ∧ ∀ j, j < 3 * q → g' j = .int .i64 ((k + j : Nat) : Int)) (fun _ i _ => m - (intOf i).toNat)
    case atStart => exact ⟨0, g, Nat.zero_le _, rfl, rfl, Wrote.refl _ _, hr, fun j hj => absurd hj (by omega)⟩
    case round =>
      obtain ⟨q, g', hq, rfl, rfl, hw, hrow, hg⟩ := hrel
      by_cases hlt : q < m
      · have z0 := hrow.cell (show q * 3 < m * 3 by omega)
        have z1 := hrow.frozen (q * 3)
        have z2 := hrow.cell (show q * 3 + 1 < m * 3 by omega)
        have z3 := hrow.frozen (q * 3 + 1)
        have z4 := hrow.cell (show q * 3 + 2 < m * 3 by omega)
        have z5 := hrow.frozen (q * 3 + 2)
        go_wp2
        go_roundw
        case rel =>
          refine ⟨q + 1, _, by omega, by go_num, ?_, ((hw.setCell hbase _).setCell hbase _).setCell hbase _, ((hrow.set _ _).set _ _).set _ _, fun j hj => ?_⟩
          · congr 1
          · by_cases e2 : j = q * 3 + 2
            · subst e2; simp; omega
            · by_cases e1 : j = q * 3 + 1
              · subst e1; simp; omega
              · by_cases e0 : j = q * 3
                · subst e0; simp; omega
                · simp only [if_neg e2, if_neg e1, if_neg e0]; exact hg j (by omega)
        case measure => simp [intOf]; omega
      · have hqm : q = m := by omega
        subst hqm
        go_wp2
        go_ret
        exact ⟨rfl, hw, .inr ⟨B, c, rfl, hrow.congr fun j hj => hg j (by omega)⟩⟩

theorem heldRowS_any (v : Value) (n : Nat) (k : Nat) (w : World) (h : MarkedR w v n k) (hn : n ≤ 1048576) (hk : k ≤ 4611686018427387904) :
    Calls Tryz.prog 78 #[v, .int .i64 k] w fun e w' => e = .returned (.int .i64 ((k + 3 * n : Nat) : Int)) ∧ w' = w := by
  rcases h with ⟨rfl, rfl⟩ | ⟨B, c, rfl, hr⟩
  · go_enter Tryz.func78, Tryz.ntmps78
    go_wp2
    refine wp_loop_rounds 1 ?_
    rw [rounds_succ]
    go_wp2
    go_ret
    exact ⟨rfl, rfl⟩
  · go_enter Tryz.func78, Tryz.ntmps78
    go_wp2
    go_loop [1, 5] (fun x i => ∃ q : Nat, q ≤ n ∧ i = .int .i64 q ∧ x = .int .i64 ((k + 3 * q : Nat) : Int)) (fun _ i => n - (intOf i).toNat)
    case atStart => exact ⟨0, Nat.zero_le _, rfl, rfl⟩
    case round =>
      obtain ⟨q, hq, rfl, rfl⟩ := hrel
      by_cases hlt : q < n
      · have z0 : w.cell? ⟨B, q * 3, none⟩ = some (.int .i64 (↑k + 3 * ↑q)) := by rw [hr.cell (by omega)]; simp; omega
        have z1 : w.cell? ⟨B, q * 3 + 1, none⟩ = some (.int .i64 (↑k + 3 * ↑q + 1)) := by rw [hr.cell (by omega)]; simp; omega
        have z2 : w.cell? ⟨B, q * 3 + 2, none⟩ = some (.int .i64 (↑k + 3 * ↑q + 1 + 1)) := by rw [hr.cell (by omega)]; simp; omega
        go_wp2
        go_round
        case rel => exact ⟨q + 1, by omega, by go_num, by go_num⟩
        case measure => simp [intOf]; omega
      · have hqm : q = n := by omega
        subst hqm
        go_wp2
        go_ret
        exact ⟨rfl, rfl⟩

end Go.Proofs.YtmecbppblbmchaaGreatDoor

/- heldVerS, heldChainS, heldStore: the marks stand; and the same of a store with no chain. -/
namespace Go.Proofs.YtmecbppblbmchaaGreatDoor
open Go.ChangeShapes Go.WideShapes Go.ChangeAt Go.RowKit Go.Sort
set_option linter.unusedVariables false
set_option maxRecDepth 100000
attribute [local go_sem ↓] Go.wp_at_zero Go.wp_at_succ

theorem heldVerS_any (B m c : Nat) (g : Nat → Value) (x : Int) (k : Nat) (hx : x = (k : Int)) (w : World) (hr : RowOf w B 123 (m * 2) g) (hg : ∀ j, j < m * 2 → g j = .int .i64 ((k + j : Nat) : Int)) (hm : m ≤ 1048576) (hk : k ≤ 4611686018427387904) :
    Calls Tryz.prog 117 #[.slice (some ⟨B, 0, none⟩) m c, .int .i64 x] w fun e w' => e = .returned (.int .i64 ((k + 2 * m : Nat) : Int)) ∧ w' = w := by
  subst hx
  go_enter Tryz.func117, Tryz.ntmps117
  go_wp2
  go_loop [1, 5] (fun x i => ∃ q : Nat, q ≤ m ∧ i = .int .i64 q ∧ x = .int .i64 ((k + 2 * q : Nat) : Int)) (fun _ i => m - (intOf i).toNat)
  case atStart => exact ⟨0, Nat.zero_le _, rfl, rfl⟩
  case round =>
    obtain ⟨q, hq, rfl, rfl⟩ := hrel
    by_cases hlt : q < m
    · have z0 : w.cell? ⟨B, q * 2, none⟩ = some (.int .i64 (↑k + 2 * ↑q)) := by rw [hr.cell (by omega), hg _ (by omega)]; simp; omega
      have z1 : w.cell? ⟨B, q * 2 + 1, none⟩ = some (.int .i64 (↑k + 2 * ↑q + 1)) := by rw [hr.cell (by omega), hg _ (by omega)]; simp; omega
      clear hg
      go_wp2
      go_round
      case rel => exact ⟨q + 1, by omega, by go_num, by go_num⟩
      case measure => simp [intOf]; omega
    · have hqm : q = m := by omega
      subst hqm
      clear hg
      go_wp2
      go_ret
      exact ⟨rfl, rfl⟩

theorem heldChainS_any (b : Nat) (Bs : Nat → Nat) (l : List Ch) (c : Nat) (k : Nat) (w : World) {lo hi : Nat} (h : MarkedC lo hi w b Bs l k l.length) (hn : Small l) (hk : k ≤ 1000) :
    Calls Tryz.prog 77 #[.slice (some ⟨b, 0, none⟩) l.length c, .int .i64 k] w fun e w' => e = .returned (.int .i64 ((k + mk l l.length : Nat) : Int)) ∧ w' = w := by
  obtain ⟨f, h3, h4⟩ := h
  have hn1 := hn.1
  go_enter Tryz.func77, Tryz.ntmps77
  go_wp2
  go_loop [1, 5] (fun x i => ∃ (q : Nat), q ≤ l.length ∧ i = .int .i64 q ∧ x = .int .i64 ((k + mk l q : Nat) : Int)) (fun _ i => l.length - (intOf i).toNat)
  case atStart => exact ⟨0, Nat.zero_le _, rfl, rfl⟩
  case round =>
    obtain ⟨q, hq, rfl, rfl⟩ := hrel
    have hb := mk_bound hn hq
    by_cases hlt : q < l.length
    · obtain ⟨⟨cq, eq⟩, gq, hrq, hm⟩ := h4 q hlt
      obtain ⟨m1, m2, m3⟩ := hm hlt
      have z0 : w.cell? ⟨b, q * 3, none⟩ = some (.int .i64 (↑k + ↑(mk l q))) := by rw [h3.cell (by omega), m1]; simp
      have z1 : w.cell? ⟨b, q * 3 + 1, none⟩ = some (.int .i64 (↑k + ↑(mk l q) + 1)) := by rw [h3.cell (by omega), m2]; simp
      have z2 := h3.cell (show q * 3 + 2 < l.length * 3 by omega)
      rw [eq] at z2
      have hnq := hn.2 q hlt
      clear h4 hm m1 m2 eq
      go_wp2_with (go_at_call 117; refine (heldVerS_any _ _ _ gq _ (k + mk l q + 2) (by omega) _ hrq m3 hnq (by omega)).mono ?_; rintro e w1 ⟨rfl, rfl⟩)
      go_round
      case rel => exact ⟨q + 1, by omega, by go_num, by congr 1; simp only [mk]; omega⟩
      case measure => simp [intOf]; omega
    · have hqm : q = l.length := by omega
      subst hqm
      clear h4
      go_wp2
      go_ret
      exact ⟨rfl, rfl⟩

theorem heldStore_any (b : Nat) (Bs : Nat → Nat) (l : List Ch) (c : Nat) (k : Nat) (w : World) {lo hi : Nat} (h : ∀ o, MarkedC lo hi (w.alloc o) b Bs l k l.length) (hn : Small l) (hk : k ≤ 1000) :
    Calls Tryz.prog 42 #[.agg #[.slice (some ⟨b, 0, none⟩) l.length c], .int .i64 k] w fun e w' => e = .returned (.int .i64 ((k + mk l l.length : Nat) : Int)) ∧ Below w.heap.size w w' := by
  have hb := mk_bound hn (Nat.le_refl _)
  go_enter Tryz.func42, Tryz.ntmps42
  go_wp2_with (go_at_call 77; refine (heldChainS_any b Bs l c k _ (h _) hn hk).mono ?_; rintro e w1 ⟨rfl, rfl⟩)
  go_ret
  exact ⟨rfl, (Below.refl _ _).alloc (Nat.le_refl _) _⟩

theorem markChainS_nil (k : Nat) (w : World) : Calls Tryz.prog 75 #[.slice none 0 0, .int .i64 k] w fun e w' => e = .returned (.int .i64 (k : Int)) ∧ w' = w := by
  go_enter Tryz.func75, Tryz.ntmps75
  go_wp2
  refine wp_loop_rounds 1 ?_
  rw [rounds_succ]
  go_wp2
  go_ret
  exact ⟨rfl, rfl⟩
theorem heldChainS_nil (k : Nat) (w : World) : Calls Tryz.prog 77 #[.slice none 0 0, .int .i64 k] w fun e w' => e = .returned (.int .i64 (k : Int)) ∧ w' = w := by
  go_enter Tryz.func77, Tryz.ntmps77
  go_wp2
  refine wp_loop_rounds 1 ?_
  rw [rounds_succ]
  go_wp2
  go_ret
  exact ⟨rfl, rfl⟩
theorem markStore_nil (k : Nat) (w : World) : Calls Tryz.prog 39 #[.agg #[.slice none 0 0], .int .i64 k] w fun e w' => e = .returned (.int .i64 (k : Int)) ∧ Below w.heap.size w w' := by
  go_enter Tryz.func39, Tryz.ntmps39
  go_wp2_with (go_at_call 75; refine (markChainS_nil k _).mono ?_; rintro e w1 ⟨rfl, rfl⟩)
  go_ret
  exact ⟨rfl, (Below.refl _ _).alloc (Nat.le_refl _) _⟩
theorem heldStore_nil (k : Nat) (w : World) : Calls Tryz.prog 42 #[.agg #[.slice none 0 0], .int .i64 k] w fun e w' => e = .returned (.int .i64 (k : Int)) ∧ Below w.heap.size w w' := by
  have hk0 : ¬ (k : Int) < 0 := by omega
  go_enter Tryz.func42, Tryz.ntmps42
  go_wp2_with (go_at_call 77; refine (heldChainS_nil k _).mono ?_; rintro e w1 ⟨rfl, rfl⟩)
  go_ret
  exact ⟨rfl, (Below.refl _ _).alloc (Nat.le_refl _) _⟩

end Go.Proofs.YtmecbppblbmchaaGreatDoor

/- Stores that a call has made: read, kept, marked and held. -/
namespace Go.Proofs.YtmecbppblbmchaaGreatDoor
open Go.ChangeShapes Go.WideShapes Go.ChangeAt Go.RowKit Go.Sort
set_option linter.unusedVariables false
set_option maxRecDepth 100000
attribute [local go_sem ↓] Go.wp_at_zero Go.wp_at_succ

theorem OwnS.chains {lo : Nat} {w : World} {v : Value} {l : List Ch} (h : OwnS lo w v l) (hn : Small l) : ChainsAt lo w.heap.size w v l := by
  rcases h with ⟨rfl, rfl⟩ | ⟨b, Bs, cap, rfl, ho⟩
  · exact ⟨none, 0, rfl, Nat.zero_le _, fun hp => absurd hp (Nat.lt_irrefl _)⟩
  · exact ho.chains hn
theorem OwnS.stays {lo : Nat} {w w' : World} {v : Value} {l : List Ch} (h : OwnS lo w v l) (hb : Below w.heap.size w w') : OwnS lo w' v l := by
  rcases h with h | ⟨b, Bs, cap, h, ho⟩
  · exact .inl h
  · exact .inr ⟨b, Bs, cap, h, (ho.stays hb).wide (Nat.le_refl _) hb.size⟩
/-- The same in a world that has turned below lo only. -/
theorem OwnS.keep {lo : Nat} {w w' : World} {v : Value} {l : List Ch} (h : OwnS lo w v l) (hs : ∀ k, lo ≤ k → k < w.heap.size → w'.heap[k]? = w.heap[k]?) (hz : w.heap.size ≤ w'.heap.size) : OwnS lo w' v l := by
  rcases h with h | ⟨b, Bs, cap, h, ho⟩
  · exact .inl h
  · exact .inr ⟨b, Bs, cap, h, (ho.keep fun k h1 h2 h3 => hs k h1 h3).wide (Nat.le_refl _) hz⟩

/-- As OwnS, in blocks ahead of hi. -/
def OwnT (lo hi : Nat) (w : World) (v : Value) (l : List Ch) : Prop := (v = .slice none 0 0 ∧ l = []) ∨ ∃ b Bs cap, v = .slice (some ⟨b, 0, none⟩) l.length cap ∧ OwnC lo hi w b Bs l
theorem OwnT.chains {lo hi : Nat} {w : World} {v : Value} {l : List Ch} (h : OwnT lo hi w v l) (hn : Small l) : ChainsAt lo hi w v l := by
  rcases h with ⟨rfl, rfl⟩ | ⟨b, Bs, cap, rfl, ho⟩
  · exact ⟨none, 0, rfl, Nat.zero_le _, fun hp => absurd hp (Nat.lt_irrefl _)⟩
  · exact ho.chains hn
theorem OwnT.keep {lo hi : Nat} {w w' : World} {v : Value} {l : List Ch} (h : OwnT lo hi w v l) (hs : ∀ k, lo ≤ k → k < hi → k < w.heap.size → w'.heap[k]? = w.heap[k]?) : OwnT lo hi w' v l := by
  rcases h with h | ⟨b, Bs, cap, h, ho⟩
  · exact .inl h
  · exact .inr ⟨b, Bs, cap, h, ho.keep hs⟩
theorem OwnT.stays {lo hi : Nat} {w w' : World} {v : Value} {l : List Ch} (h : OwnT lo hi w v l) (hb : Below w.heap.size w w') : OwnT lo hi w' v l := h.keep fun k _ _ hk => hb.block k hk

theorem MarkedC.stays {lo hi : Nat} {w w' : World} {b : Nat} {Bs : Nat → Nat} {l : List Ch} {k n : Nat} (h : MarkedC lo hi w b Bs l k n) (hb : Below w.heap.size w w') : MarkedC lo hi w' b Bs l k n := by
  obtain ⟨f, h1, h2⟩ := h
  refine ⟨f, h1.of_block (hb.block _ h1.lt), fun i hi' => ?_⟩
  obtain ⟨g1, g, g2, g3⟩ := h2 i hi'
  exact ⟨g1, g, g2.of_block (hb.block _ g2.lt), g3⟩
def MarkedT (w : World) (v : Value) (l : List Ch) : Prop := (v = .slice none 0 0 ∧ l = []) ∨ ∃ lo hi b Bs cap, v = .slice (some ⟨b, 0, none⟩) l.length cap ∧ MarkedC lo hi w b Bs l 1 l.length
theorem MarkedT.stays {w w' : World} {v : Value} {l : List Ch} (h : MarkedT w v l) (hb : Below w.heap.size w w') : MarkedT w' v l := by
  rcases h with h | ⟨lo, hi, b, Bs, cap, h, hm⟩
  · exact .inl h
  · exact .inr ⟨lo, hi, b, Bs, cap, h, hm.stays hb⟩

theorem markT_any (v : Value) (l : List Ch) (w : World) {lo hi : Nat} (h : OwnT lo hi w v l) (hn : Small l) (hhi : hi ≤ w.heap.size) :
    Calls Tryz.prog 39 #[.agg #[v], .int .i64 1] w fun e w' => e = .returned (.int .i64 ((1 + mk l l.length : Nat) : Int)) ∧ (∀ x, ¬ (lo ≤ x ∧ x < hi) → x < w.heap.size → w'.heap[x]? = w.heap[x]?) ∧ w'.os = w.os ∧ w'.tape = w.tape ∧ w'.output = w.output ∧ w.heap.size ≤ w'.heap.size ∧ MarkedT w' v l := by
  rcases h with ⟨rfl, rfl⟩ | ⟨b, Bs, cap, rfl, ho⟩
  · refine (markStore_nil 1 w).mono ?_
    rintro e w' ⟨rfl, hb⟩
    exact ⟨rfl, fun x _ hx => hb.block x hx, hb.os, hb.tape, hb.output, hb.size, .inl ⟨rfl, rfl⟩⟩
  · refine (markStore_any b Bs l cap 1 w ho hn (by omega) hhi).mono ?_
    rintro e w' ⟨rfl, h1, h2, h3, h4, h5, h6⟩
    exact ⟨rfl, h1, h2, h3, h4, h5, .inr ⟨_, _, b, Bs, cap, rfl, h6⟩⟩
theorem heldT_any (v : Value) (l : List Ch) (w : World) (h : MarkedT w v l) (hn : Small l) :
    Calls Tryz.prog 42 #[.agg #[v], .int .i64 1] w fun e w' => e = .returned (.int .i64 ((1 + mk l l.length : Nat) : Int)) ∧ Below w.heap.size w w' := by
  rcases h with ⟨rfl, rfl⟩ | ⟨lo, hi, b, Bs, cap, rfl, hm⟩
  · exact heldStore_nil 1 w
  · exact heldStore_any b Bs l cap 1 w (fun o => hm.stays (below_alloc w o)) hn (by omega)

end Go.Proofs.YtmecbppblbmchaaGreatDoor
