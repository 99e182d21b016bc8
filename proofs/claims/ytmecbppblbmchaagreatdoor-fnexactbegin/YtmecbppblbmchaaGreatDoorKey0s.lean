import Derived.Test.YtmecbppblbmchaaGreatDoorOwn
import Derived.Test.YtmecbppblbmchaaGreatDoorCopy0
import Derived.Outline
import Derived.Test.YtmecbppblbmchaaGreatDoorRows
import Derived.Deep.RegionHeld3
import Derived.Deep.DrawnRows
import Derived.Deep.QuietTactic
import Derived.BigQuiet
import Derived.Lib.QuietBelow
/- Marking a store that a call owns: nothing else is written. -/
namespace Go.Proofs.YtmecbppblbmchaaGreatDoor
open Go.ChangeShapes Go.WideShapes Go.ChangeAt Go.RowKit
set_option linter.unusedVariables false
set_option maxRecDepth 100000
attribute [local go_sem ↓] Go.wp_at_zero Go.wp_at_succ

/-- Only blocks of p may have been written; none is new. -/
structure Wrote (p : Nat → Prop) (w w' : World) : Prop where
  os : w'.os = w.os
  tape : w'.tape = w.tape
  output : w'.output = w.output
  size : w'.heap.size = w.heap.size
  block : ∀ k, ¬ p k → w'.heap[k]? = w.heap[k]?

theorem Wrote.refl (p : Nat → Prop) (w : World) : Wrote p w w := ⟨rfl, rfl, rfl, rfl, fun _ _ => rfl⟩
theorem Wrote.trans {p : Nat → Prop} {a b c : World} (h : Wrote p a b) (k : Wrote p b c) : Wrote p a c :=
  ⟨k.os.trans h.os, k.tape.trans h.tape, k.output.trans h.output, k.size.trans h.size, fun i hi => (k.block i hi).trans (h.block i hi)⟩
theorem Wrote.setCell {p : Nat → Prop} {a w : World} (h : Wrote p a w) {x : Addr} (hx : p x.block) (u : Value) : Wrote p a (w.setCell x u) :=
  h.trans ⟨rfl, rfl, rfl, by simp [World.setCell], fun k hk => Below.heap_setCell _ _ _ _ (fun e => hk (e ▸ hx))⟩
theorem Wrote.imp {p q : Nat → Prop} {a w : World} (h : Wrote p a w) (hpq : ∀ k, p k → q k) : Wrote q a w :=
  ⟨h.os, h.tape, h.output, h.size, fun k hk => h.block k (fun hp => hk (hpq k hp))⟩
theorem Wrote.below {p : Nat → Prop} {a w : World} {B : Nat} (h : Wrote p a w) (hp : ∀ k, p k → B ≤ k) : Below B a w :=
  ⟨h.os, h.tape, h.output, by rw [h.size]; exact Nat.le_refl _, fun k hk => h.block k (fun h' => by have := hp k h'; omega)⟩

theorem markVerS_any (B m c : Nat) (g : Nat → Value) (k : Nat) (w : World) (hr : RowOf w B 123 (m * 2) g) (hm : m ≤ 1048576) (hk : k ≤ 4611686018427387904) :
    Calls Tryz.prog 116 #[.slice (some ⟨B, 0, none⟩) m c, .int .i64 k] w fun e w' => e = .returned (.int .i64 ((k + 2 * m : Nat) : Int)) ∧ Wrote (fun b => b = B) w w' ∧ RowOf w' B 123 (m * 2) (fun j => .int .i64 ((k + j : Nat) : Int)) := by
  go_enter Tryz.func116, Tryz.ntmps116
  go_wp2
  go_loopw [1, 5] (fun x i wr => ∃ (q : Nat) (g' : Nat → Value), q ≤ m ∧ i = .int .i64 q ∧ x = .int .i64 ((k + 2 * q : Nat) : Int) ∧ Wrote (fun b => b = B) w wr ∧ RowOf wr B 123 (m * 2) g' ∧ ∀ j, j < 2 * q → g' j = .int .i64 ((k + j : Nat) : Int)) (fun _ i _ => m - (intOf i).toNat)
  case atStart => exact ⟨0, g, Nat.zero_le _, rfl, rfl, Wrote.refl _ _, hr, fun j hj => absurd hj (by omega)⟩
  case round =>
    obtain ⟨q, g', hq, rfl, rfl, hw, hrow, hg⟩ := hrel
    by_cases hlt : q < m
    · have z0 := hrow.cell (show q * 2 < m * 2 by omega)
      have z1 := hrow.frozen (q * 2)
      have z2 := hrow.cell (show q * 2 + 1 < m * 2 by omega)
      have z3 := hrow.frozen (q * 2 + 1)
      go_wp2
      go_roundw
      case rel =>
        refine ⟨q + 1, _, by omega, by go_num, ?_, (hw.setCell rfl _).setCell rfl _, (hrow.set _ _).set _ _, fun j hj => ?_⟩
        · congr 1
        · by_cases e1 : j = q * 2 + 1
          · subst e1; simp; omega
          · by_cases e2 : j = q * 2
            · subst e2; simp; omega
            · simp only [if_neg e1, if_neg e2]; exact hg j (by omega)
      case measure => simp [intOf]; omega
    · have hqm : q = m := by omega
      subst hqm
      go_wp2
      go_ret
      exact ⟨rfl, hw, hrow.congr fun j hj => hg j (by omega)⟩

theorem markVerS_at (B m c : Nat) (g : Nat → Value) (x : Int) (k : Nat) (hx : x = (k : Int)) (w : World) (hr : RowOf w B 123 (m * 2) g) (hm : m ≤ 1048576) (hk : k ≤ 4611686018427387904) :
    Calls Tryz.prog 116 #[.slice (some ⟨B, 0, none⟩) m c, .int .i64 x] w fun e w' => e = .returned (.int .i64 ((k + 2 * m : Nat) : Int)) ∧ Wrote (fun b => b = B) w w' ∧ RowOf w' B 123 (m * 2) (fun j => .int .i64 ((k + j : Nat) : Int)) := by
  subst hx
  exact markVerS_any B m c g k w hr hm hk

/-- How many marks lie ahead of the i-th chain. -/
def mk (l : List Ch) : Nat → Nat
  | 0 => 0
  | i + 1 => mk l i + 2 + 2 * (cAt l i).l.length

theorem mk_le {l : List Ch} (hn : Small l) : ∀ i, i ≤ l.length → mk l i ≤ i * 2097154
  | 0, _ => by simp [mk]
  | i + 1, hi => by
    have h1 := mk_le hn i (by omega)
    have h2 := hn.2 i (by omega)
    simp only [mk]
    omega

theorem mk_bound {l : List Ch} (hn : Small l) {i : Nat} (hi : i ≤ l.length) : mk l i ≤ 2199025352704 := by
  have h1 := mk_le hn i hi
  have h2 := hn.1
  omega

/-- The store bears the marks from k on. -/
def MarkedC (lo hi : Nat) (w : World) (b : Nat) (Bs : Nat → Nat) (l : List Ch) (k n : Nat) : Prop :=
  ∃ f, RowOf w b 94 (l.length * 3) f ∧
    (∀ i, i < l.length → (∃ c, f (i * 3 + 2) = .slice (some ⟨Bs i, 0, none⟩) (cAt l i).l.length c) ∧ ∃ g, RowOf w (Bs i) 123 ((cAt l i).l.length * 2) g ∧
      (i < n → f (i * 3) = .int .i64 ((k + mk l i : Nat) : Int) ∧ f (i * 3 + 1) = .int .i64 ((k + mk l i + 1 : Nat) : Int) ∧ ∀ j, j < (cAt l i).l.length * 2 → g j = .int .i64 ((k + mk l i + 2 + j : Nat) : Int)))

theorem markChainS_any (b : Nat) (Bs : Nat → Nat) (l : List Ch) (c : Nat) (k : Nat) (w : World) {lo hi : Nat} (h : OwnC lo hi w b Bs l) (hn : Small l) (hk : k ≤ 1000) :
    Calls Tryz.prog 75 #[.slice (some ⟨b, 0, none⟩) l.length c, .int .i64 k] w fun e w' => e = .returned (.int .i64 ((k + mk l l.length : Nat) : Int)) ∧ Wrote (fun x => lo ≤ x ∧ x < hi) w w' ∧ MarkedC lo hi w' b Bs l k l.length := by
  obtain ⟨h1, h2, f, h3, h4, h5⟩ := h
  have hn1 := hn.1
  go_enter Tryz.func75, Tryz.ntmps75
  go_wp2
  go_loopw [1, 5] (fun x i wr => ∃ (q : Nat), q ≤ l.length ∧ i = .int .i64 q ∧ x = .int .i64 ((k + mk l q : Nat) : Int) ∧ Wrote (fun x => lo ≤ x ∧ x < hi) w wr ∧ MarkedC lo hi wr b Bs l k q) (fun _ i _ => l.length - (intOf i).toNat)
  case atStart =>
    refine ⟨0, Nat.zero_le _, rfl, rfl, Wrote.refl _ _, f, h3, fun i hi => ?_⟩
    obtain ⟨g1, g2, g3, ⟨g, g4, _⟩, _⟩ := h4 i hi
    exact ⟨g3.imp fun _ h => h.2, g, g4, fun h => absurd h (Nat.not_lt_zero _)⟩
  case round =>
    obtain ⟨q, hq, rfl, rfl, hw, f', hrow, hin⟩ := hrel
    have hb := mk_bound hn hq
    by_cases hlt : q < l.length
    · have z0 := hrow.cell (show q * 3 < l.length * 3 by omega)
      have z1 := hrow.frozen (q * 3)
      have z2 := hrow.cell (show q * 3 + 1 < l.length * 3 by omega)
      have z3 := hrow.frozen (q * 3 + 1)
      have z4 := hrow.cell (show q * 3 + 2 < l.length * 3 by omega)
      obtain ⟨⟨cq, eq⟩, gq, hrq, _⟩ := hin q hlt
      rw [eq] at z4
      obtain ⟨_, _, _, _, l1, l2, l3⟩ := h4 q hlt
      have hnq := hn.2 q hlt
      have hrq' : RowOf ((wr.setCell ⟨b, q * 3, none⟩ (.int .i64 (↑k + ↑(mk l q)))).setCell ⟨b, q * 3 + 1, none⟩ (.int .i64 (↑k + ↑(mk l q) + 1))) (Bs q) 123 ((cAt l q).l.length * 2) gq := (hrq.setOther (by simpa using l3) _).setOther (by simpa using l3) _
      go_wp2_with fail
      refine (markVerS_at _ _ _ gq _ (k + mk l q + 2) (by omega) _ hrq' hnq (by omega)).mono ?_
      rintro e w1 ⟨rfl, hw1, hr1⟩
      have hne := l3
      go_wp2
      go_roundw
      case rel =>
        have hbb : w1.heap[b]? = ((wr.setCell ⟨b, q * 3, none⟩ (.int .i64 (↑k + ↑(mk l q)))).setCell ⟨b, q * 3 + 1, none⟩ (.int .i64 (↑k + ↑(mk l q) + 1))).heap[b]? := hw1.block b (fun e => hne e.symm)
        refine ⟨q + 1, by omega, by go_num, ?_, ((hw.setCell ⟨h1, h2⟩ _).setCell ⟨h1, h2⟩ _).trans (hw1.imp fun x hx => by subst hx; exact ⟨l1, l2⟩), _, ((hrow.set _ _).set _ _).of_block hbb, fun i hi => ?_⟩
        · congr 1; simp only [mk]; omega
        · obtain ⟨⟨ci, ei⟩, gi, hri, hmi⟩ := hin i hi
          obtain ⟨_, _, _, _, _, _, l3i⟩ := h4 i hi
          refine ⟨⟨ci, by rw [if_neg (by omega), if_neg (by omega)]; exact ei⟩, ?_⟩
          by_cases e : i = q
          · subst e
            exact ⟨_, hr1, fun _ => ⟨by simp, by simp, fun j hj => rfl⟩⟩
          · have hne2 : Bs i ≠ Bs q := by
              rcases Nat.lt_or_gt_of_ne e with hlt' | hgt
              · exact h5 i q hlt' hlt
              · exact fun e' => h5 q i hgt hi e'.symm
            refine ⟨gi, ((hri.setOther (by simpa using l3i) _).setOther (by simpa using l3i) _).of_block (hw1.block _ hne2), fun hlt' => ?_⟩
            obtain ⟨m1, m2, m3⟩ := hmi (by omega)
            exact ⟨by rw [if_neg (by omega), if_neg (by omega)]; exact m1, by rw [if_neg (by omega), if_neg (by omega)]; exact m2, m3⟩
      case measure => simp [intOf]; omega
    · have hqm : q = l.length := by omega
      subst hqm
      go_wp2
      go_ret
      exact ⟨rfl, hw, f', hrow, hin⟩

theorem markStore_any (b : Nat) (Bs : Nat → Nat) (l : List Ch) (c : Nat) (k : Nat) (w : World) {lo hi : Nat} (h : OwnC lo hi w b Bs l) (hn : Small l) (hk : k ≤ 1000) (hhi : hi ≤ w.heap.size) :
    Calls Tryz.prog 39 #[.agg #[.slice (some ⟨b, 0, none⟩) l.length c], .int .i64 k] w fun e w' => e = .returned (.int .i64 ((k + mk l l.length : Nat) : Int)) ∧ (∀ x, ¬ (lo ≤ x ∧ x < hi) → x < w.heap.size → w'.heap[x]? = w.heap[x]?) ∧ w'.os = w.os ∧ w'.tape = w.tape ∧ w'.output = w.output ∧ w.heap.size ≤ w'.heap.size ∧ MarkedC lo hi w' b Bs l k l.length := by
  have hb := mk_bound hn (Nat.le_refl _)
  go_enter Tryz.func39, Tryz.ntmps39
  go_wp2_with fail
  refine (markChainS_any b Bs l c k _ (h.stays ((Below.refl _ _).alloc (Nat.le_refl _) _)) hn hk).mono ?_
  rintro e w1 ⟨rfl, hw1, hm1⟩
  go_wp2
  go_ret
  refine ⟨rfl, fun x hx hlt => ?_, hw1.os, hw1.tape, hw1.output, ?_, hm1⟩
  · rw [hw1.block x hx, Below.heap_alloc _ _ _ hlt]
  · rw [hw1.size]; simp

end Go.Proofs.YtmecbppblbmchaaGreatDoor

/- The answer to a question. -/
namespace Go.Proofs.YtmecbppblbmchaaGreatDoor
open Go.ChangeShapes Go.WideShapes Go.ChangeAt Go.RowKit
set_option linter.unusedVariables false

/-- The ending is the answer to the question p. -/
def Says (e : Ending) (p : Prop) : Prop := ∃ q : Bool, e = .returned (.bool q) ∧ (q = true ↔ p)

theorem says_yes {p : Prop} (h : p) : Says (.returned (.bool true)) p := ⟨true, rfl, fun _ => h, fun _ => rfl⟩

theorem says_no {p : Prop} (h : ¬ p) : Says (.returned (.bool false)) p := ⟨false, rfl, fun h' => by simp at h', fun h' => absurd h' h⟩

theorem says_false {p : Prop} {q : Bool} (h : q = true ↔ p) (hp : ¬ p) : q = false := by
  cases q
  · rfl
  · exact absurd (h.1 rfl) hp

theorem upto_succ {p : Nat → Prop} {k : Nat} (h : ∀ j, j < k → p j) (hk : p k) : ∀ j, j < k + 1 → p j := fun j hj => by
  by_cases e : j = k
  · exact e ▸ hk
  · exact h j (by omega)

end Go.Proofs.YtmecbppblbmchaaGreatDoor

/- Tables and keys: what is ahead of what. -/
namespace Go.Proofs.YtmecbppblbmchaaGreatDoor
open Go.ChangeShapes Go.WideShapes Go.ChangeAt Go.RowKit Go.Sort
set_option linter.unusedVariables false
set_option maxRecDepth 100000
attribute [local go_sem ↓] Go.wp_at_zero Go.wp_at_succ

def tabB (t : Int) : Bool := decide (0 ≤ t ∧ t < 5)

def klB (a b c d : Int) : Bool := decide (a < c ∨ a = c ∧ b < d)

theorem tabB_iff (t : Int) : tabB t = true ↔ 0 ≤ t ∧ t < 5 := by simp [tabB]

theorem klB_iff (a b c d : Int) : klB a b c d = true ↔ (a < c ∨ a = c ∧ b < d) := by simp [klB]

theorem isTable_any (t : Int) (w : World) :
    Calls Tryz.prog 118 #[.int .i64 t] w fun e w' => e = .returned (.bool (tabB t)) ∧ w' = w := by
  by_cases h1 : 0 ≤ t
  · by_cases h2 : t < 5
    · go_enter Tryz.func118, Tryz.ntmps118
      go_wp2
      go_ret
      exact ⟨by simp [tabB, h1, h2], rfl⟩
    · go_enter Tryz.func118, Tryz.ntmps118
      go_wp2
      go_ret
      exact ⟨by simp [tabB, h1, h2], rfl⟩
  · go_enter Tryz.func118, Tryz.ntmps118
    go_wp2
    go_ret
    exact ⟨by simp [tabB]; omega, rfl⟩

theorem implKeyLess_any (a b c d : Int) (w : World) :
    Calls Tryz.prog 138 #[.agg #[.int .i64 a, .int .i64 b], .agg #[.int .i64 c, .int .i64 d]] w fun e w' => e = .returned (.bool (klB a b c d)) ∧ Below w.heap.size w w' := by
  have hb : Below w.heap.size w ((w.alloc (Obj.cells #[Value.int IntKind.i64 a, Value.int IntKind.i64 b] 46)).alloc (Obj.cells #[Value.int IntKind.i64 c, Value.int IntKind.i64 d] 46)) := (((Below.refl _ _).alloc (Nat.le_refl _) _).alloc (by simp) _)
  by_cases h1 : a < c
  · go_enter Tryz.func138, Tryz.ntmps138
    go_wp2
    go_ret
    exact ⟨by simp [klB, h1], hb⟩
  · by_cases h2 : a = c
    · subst h2
      by_cases h3 : b < d
      · go_enter Tryz.func138, Tryz.ntmps138
        go_wp2
        go_ret
        exact ⟨by simp [klB, h3], hb⟩
      · go_enter Tryz.func138, Tryz.ntmps138
        go_wp2
        go_ret
        exact ⟨by simp [klB, h3], hb⟩
    · go_enter Tryz.func138, Tryz.ntmps138
      go_wp2
      go_ret
      exact ⟨by simp [klB, h1, h2], hb⟩

theorem isTable_below (t : Int) (w : World) : Calls Tryz.prog 118 #[.int .i64 t] w fun e w' => e = .returned (.bool (tabB t)) ∧ Below w.heap.size w w' := by
  refine (isTable_any t w).mono ?_
  rintro e w' ⟨rfl, rfl⟩
  exact ⟨rfl, Below.refl _ _⟩

theorem klB_trans {a b c d e f : Int} (h1 : klB a b c d = true) (h2 : klB c d e f = true) : klB a b e f = true := by
  rw [klB_iff] at *; omega

end Go.Proofs.YtmecbppblbmchaaGreatDoor

/- Tables and keys: the specification's own tests. -/
namespace Go.Proofs.YtmecbppblbmchaaGreatDoor
open Go.ChangeShapes Go.WideShapes Go.ChangeAt Go.RowKit Go.Sort
set_option linter.unusedVariables false
set_option maxRecDepth 100000
attribute [local go_sem ↓] Go.wp_at_zero Go.wp_at_succ

theorem l1table_any (t r : Int) (w : World) :
    Calls Tryz.prog 46 #[.agg #[.int .i64 t, .int .i64 r]] w fun e w' => e = .returned (.bool (tabB t)) ∧ Below w.heap.size w w' := by
  have hb : Below w.heap.size w (w.alloc (Obj.cells #[Value.int IntKind.i64 t, Value.int IntKind.i64 r] 46)) := (Below.refl _ _).alloc (Nat.le_refl _) _
  by_cases h1 : 0 ≤ t
  · by_cases h2 : t < 5
    · go_enter Tryz.func46, Tryz.ntmps46
      go_wp2
      go_ret
      exact ⟨by simp [tabB, h1, h2], hb⟩
    · go_enter Tryz.func46, Tryz.ntmps46
      go_wp2
      go_ret
      exact ⟨by simp [tabB, h1, h2], hb⟩
  · go_enter Tryz.func46, Tryz.ntmps46
    go_wp2
    go_ret
    exact ⟨by simp [tabB]; omega, hb⟩

theorem specKeyLess_any (a b c d : Int) (w : World) :
    Calls Tryz.prog 99 #[.agg #[.int .i64 a, .int .i64 b], .agg #[.int .i64 c, .int .i64 d]] w fun e w' => e = .returned (.bool (klB a b c d)) ∧ Below w.heap.size w w' := by
  have hb : Below w.heap.size w ((w.alloc (Obj.cells #[Value.int IntKind.i64 a, Value.int IntKind.i64 b] 46)).alloc (Obj.cells #[Value.int IntKind.i64 c, Value.int IntKind.i64 d] 46)) := (((Below.refl _ _).alloc (Nat.le_refl _) _).alloc (by simp) _)
  by_cases h1 : a < c
  · go_enter Tryz.func99, Tryz.ntmps99
    go_wp2
    go_ret
    exact ⟨by simp [klB, h1], hb⟩
  · by_cases h2 : a = c
    · subst h2
      by_cases h3 : b < d
      · go_enter Tryz.func99, Tryz.ntmps99
        go_wp2
        go_ret
        exact ⟨by simp [klB, h3], hb⟩
      · go_enter Tryz.func99, Tryz.ntmps99
        go_wp2
        go_ret
        exact ⟨by simp [klB, h3], hb⟩
    · go_enter Tryz.func99, Tryz.ntmps99
      go_wp2
      go_ret
      exact ⟨by simp [klB, h1, h2], hb⟩

end Go.Proofs.YtmecbppblbmchaaGreatDoor
