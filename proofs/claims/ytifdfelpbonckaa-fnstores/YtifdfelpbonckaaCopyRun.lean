/- copy at elements of several cells; a slice's cells. -/
import Derived.Test.YtifdfelpbonckaaCopy0
import Derived.Laws.CopyRow
namespace Go.Proofs.Ytifdfelpbonckaa
open Go.ChangeShapes Go.WideShapes Go.ChangeAt Go.RowKit
set_option linter.unusedVariables false
set_option maxRecDepth 100000

theorem run_copy_rowK {P : Program} (w : World) (dT sT ty elem : TypeId) (g o dLen dCap : Nat) (a : Addr) (sLen sCap : Nat) (cur : Array Value) (t : TypeId) (cs : List Value) (n k : Nat)
    (hu : P.underlying dT = some (.slice elem)) (hs : (P.info? elem).map (·.size) = some k)
    (hg : w.heap[g]? = some (.cells cur t (0, 0))) (hm : Nat.min sLen dLen = n) (hn : cs.length = n * k)
    (hsrc : ∀ j v, cs[j]? = some v → w.cell? (a.add j) = some v) (hfit : o + cs.length ≤ cur.size) (h1 : ∀ v ∈ cs, v.oneCell' = true) :
    (Builtin.copy_ #[dT, sT] ty #[.slice (some ⟨g, o, none⟩) dLen dCap, .slice (some a) sLen sCap]).run P w =
      .ok (goInt n) (w.setRow g (cur.toList.take o ++ cs ++ cur.toList.drop (o + cs.length)).toArray) := by
  have hl := run_loadCells_list (P := P) w a cs hsrc
  have hst := run_storeCells_at P g o t cs 0 cur w hg (by simpa using hfit) h1
  cases hq : P.info? elem with
  | none => simp [hq] at hs
  | some i =>
    have hi : i.size = k := by simpa [hq] using hs
    simp [Builtin.copy_, run_underlying hu, Builtin.lenOf, Builtin.firstCells, sizeOf, typeInfo, hq, hi, hm, ← hn, hl, hst]

theorem run_copy_noneK {P : Program} (w : World) (dT sT ty elem : TypeId) (d s : Option Addr) (dLen dCap sLen sCap k : Nat)
    (hu : P.underlying dT = some (.slice elem)) (hs : (P.info? elem).map (·.size) = some k) (hz : Nat.min sLen dLen = 0) :
    (Builtin.copy_ #[dT, sT] ty #[.slice d dLen dCap, .slice s sLen sCap]).run P w = .ok (goInt 0) w := by
  have h0 : ∀ a, (loadCells a 0).run P w = .ok #[] w := fun a => run_loadCells_list (P := P) w a [] (by simp)
  cases hq : P.info? elem with
  | none => simp [hq] at hs
  | some i => cases d <;> cases s <;> simp [Builtin.copy_, run_underlying hu, Builtin.lenOf, Builtin.firstCells, sizeOf, typeInfo, hq, storeCells, h0, hz]

theorem add_at (b off x : Nat) : (⟨b, off, none⟩ : Addr).add x = ⟨b, off + x, none⟩ := by
  by_cases h : x = 0 <;> simp [Addr.add, h]

/-- The slice's cells lie in memory. -/
def CellsAt (w : World) (a : Option Addr) (n : Nat) (cs : List Value) : Prop := 0 < n → ∃ b off, a = some ⟨b, off, none⟩ ∧ ∀ j v, cs[j]? = some v → w.cell? ⟨b, off + j, none⟩ = some v
theorem CellsAt.stays {w w' : World} {a : Option Addr} {n : Nat} {cs : List Value} (h : CellsAt w a n cs) (hb : Below w.heap.size w w') : CellsAt w' a n cs := fun hp => by
  obtain ⟨b, off, h1, h2⟩ := h hp
  exact ⟨b, off, h1, fun j v hj => cell_stays hb (h2 j v hj)⟩

/-- The cells of versions. -/
def vcells (l : List Vr) : List Value := l.flatMap fun x => [.int .i64 x.1, .int .i64 x.2]
theorem vcells_get : ∀ (l : List Vr) (i : Nat), i < l.length → (vcells l)[i * 2]? = some (.int .i64 (vAt l i).1) ∧ (vcells l)[i * 2 + 1]? = some (.int .i64 (vAt l i).2)
  | [], i, h => absurd h (Nat.not_lt_zero _)
  | x :: l, 0, h => by simp [vcells, vAt]
  | x :: l, i + 1, h => by
    obtain ⟨h1, h2⟩ := vcells_get l i (by simpa using h)
    have e : vcells (x :: l) = .int .i64 x.1 :: .int .i64 x.2 :: vcells l := by simp [vcells]
    rw [e]
    refine ⟨?_, ?_⟩
    · rw [show (i + 1) * 2 = i * 2 + 1 + 1 by omega]; simpa [vAt] using h1
    · rw [show (i + 1) * 2 + 1 = i * 2 + 1 + 1 + 1 by omega]; simpa [vAt] using h2
theorem vcells_length (l : List Vr) : (vcells l).length = l.length * 2 := by
  induction l with
  | nil => rfl
  | cons x l ih => simp only [vcells, List.flatMap_cons, List.length_append, List.length_cons] at *; rw [ih]; simp; omega
theorem vcells_one (l : List Vr) : ∀ v ∈ vcells l, v.oneCell' = true := by
  intro v hv
  simp [vcells] at hv
  obtain ⟨a, b, _, h⟩ := hv
  rcases h with rfl | rfl <;> rfl

theorem VersAt.cells {lo hi : Nat} {w : World} {a : Option Addr} {cap : Nat} {l : List Vr} (h : VersAt lo hi w (.slice a l.length cap) l) : CellsAt w a l.length (vcells l) := fun hp => by
  obtain ⟨a', cap', e, hm, hc⟩ := h
  injection e with e1 e2 e3
  subst e1
  obtain ⟨b, off, rfl, _, _, hcc⟩ := hc hp
  refine ⟨b, off, rfl, fun j v hj => ?_⟩
  have hjl : j < l.length * 2 := by rw [← vcells_length]; exact (List.getElem?_eq_some_iff.1 hj).1
  obtain ⟨g1, g2⟩ := vcells_get l (j / 2) (by omega)
  obtain ⟨k1, k2⟩ := hcc (j / 2) (by omega)
  rcases Nat.mod_two_eq_zero_or_one j with hj2 | hj2
  · rw [show j = j / 2 * 2 by omega] at hj ⊢
    rw [g1] at hj
    cases hj
    exact k1
  · rw [show j = j / 2 * 2 + 1 by omega] at hj ⊢
    rw [g2] at hj
    cases hj
    exact k2

end Go.Proofs.Ytifdfelpbonckaa
