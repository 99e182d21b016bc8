import Derived.Test.YtmecbppblbmchaaGreatDoorCopyG
/- impl.copyMgr: a copy of the whole that is owned, behind a pointer. -/
namespace Go.Proofs.YtmecbppblbmchaaGreatDoor
open Go.ChangeShapes Go.WideShapes Go.ChangeAt Go.RowKit Go.Maps Go.Sort
set_option linter.unusedVariables false
set_option maxRecDepth 100000
attribute [local go_sem ↓] Go.wp_at_zero Go.wp_at_succ

theorem choose_txs {w : World} {b off : Nat} {l : List Td} {lo hi : Nat} (hcc : ∀ i, i < l.length → w.cell? ⟨b, off + i * 3, none⟩ = some (.int .i64 (tAt l i).i) ∧ w.cell? ⟨b, off + i * 3 + 1, none⟩ = some (.int .i64 (tAt l i).s) ∧ ∃ a c, w.cell? ⟨b, off + i * 3 + 2, none⟩ = some (.slice a (tAt l i).w.length c) ∧ RowsAt lo hi w (.slice a (tAt l i).w.length c) (tAt l i).w) :
    ∃ A : Nat → Option Addr × Nat, ∀ i, i < l.length → w.cell? ⟨b, off + i * 3, none⟩ = some (.int .i64 (tAt l i).i) ∧ w.cell? ⟨b, off + i * 3 + 1, none⟩ = some (.int .i64 (tAt l i).s) ∧ w.cell? ⟨b, off + i * 3 + 2, none⟩ = some (.slice (A i).1 (tAt l i).w.length (A i).2) ∧ RowsAt lo hi w (.slice (A i).1 (tAt l i).w.length (A i).2) (tAt l i).w := by
  have key : ∀ i, ∃ q : Option Addr × Nat, i < l.length → w.cell? ⟨b, off + i * 3, none⟩ = some (.int .i64 (tAt l i).i) ∧ w.cell? ⟨b, off + i * 3 + 1, none⟩ = some (.int .i64 (tAt l i).s) ∧ w.cell? ⟨b, off + i * 3 + 2, none⟩ = some (.slice q.1 (tAt l i).w.length q.2) ∧ RowsAt lo hi w (.slice q.1 (tAt l i).w.length q.2) (tAt l i).w := fun i => by
    by_cases hi : i < l.length
    · obtain ⟨c0, c1, a, c, c2, c3⟩ := hcc i hi
      exact ⟨(a, c), fun _ => ⟨c0, c1, c2, c3⟩⟩
    · exact ⟨(none, 0), fun h => absurd h hi⟩
  exact ⟨fun i => Classical.choose (key i), fun i hi => Classical.choose_spec (key i) hi⟩

/-- What the transactions' own row holds, the lists as they were. -/
def txf (l : List Td) (A : Nat → Option Addr × Nat) : List Value := tri l.length (fun i => .int .i64 (tAt l i).i) (fun i => .int .i64 (tAt l i).s) (fun i => .slice (A i).1 (tAt l i).w.length (A i).2)

theorem txs_open {lo hi : Nat} {w : World} {a : Option Addr} {cap : Nat} {l : List Td} (h : TxsAt lo hi w (.slice a l.length cap) l) :
    ∃ A : Nat → Option Addr × Nat, CellsAt w a l.length (txf l A) ∧ ∀ i, i < l.length → RowsAt lo hi w (.slice (A i).1 (tAt l i).w.length (A i).2) (tAt l i).w ∧ ∀ b off, a = some ⟨b, off, none⟩ → w.cell? ⟨b, off + i * 3, none⟩ = some (.int .i64 (tAt l i).i) ∧ w.cell? ⟨b, off + i * 3 + 1, none⟩ = some (.int .i64 (tAt l i).s) ∧ w.cell? ⟨b, off + i * 3 + 1 + 1, none⟩ = some (.slice (A i).1 (tAt l i).w.length (A i).2) := by
  obtain ⟨a', cap', e, hm, hc⟩ := h
  injection e with e1 e2 e3
  subst e1
  by_cases hp : 0 < l.length
  · obtain ⟨b, off, rfl, _, _, hcc⟩ := hc hp
    obtain ⟨A, hAA⟩ := choose_txs hcc
    refine ⟨A, fun _ => ⟨b, off, rfl, tri_cells fun i hi => ⟨(hAA i hi).1, (hAA i hi).2.1, (hAA i hi).2.2.1⟩⟩, fun i hi => ⟨(hAA i hi).2.2.2, fun b' off' e => ?_⟩⟩
    injection e with e
    injection e with e1 e2
    subst e1 e2
    exact ⟨(hAA i hi).1, (hAA i hi).2.1, (hAA i hi).2.2.1⟩
  · exact ⟨fun _ => (none, 0), fun h => absurd h hp, fun i hi => absurd hi (by omega)⟩

theorem txs_block {w : World} {a : Option Addr} {cap : Nat} {l : List Td} {A : Nat → Option Addr × Nat} (h : CellsAt w a l.length (txf l A)) (hn : l.length ≤ 1048576) :
    Calls Tryz.prog 66 #[.slice a l.length cap] w fun e w' => e = .returned (.slice (some ⟨w.heap.size, 0, none⟩) l.length l.length) ∧ RowOf w' w.heap.size 97 (l.length * 3) (fun j => (txf l A).getD j undef) ∧ Below w.heap.size w w' := by
  refine (copyTx_block a l.length cap (txf l A) w hn (tri_length _ _ _ _) (tri_one fun i hi => ⟨rfl, rfl, rfl⟩) h).mono ?_
  rintro e w' ⟨rfl, hB, hb⟩
  have hr := RowOf.of_cells hB
  rw [show (txf l A).length = l.length * 3 from tri_length _ _ _ _] at hr
  exact ⟨rfl, hr, hb⟩

end Go.Proofs.YtmecbppblbmchaaGreatDoor
