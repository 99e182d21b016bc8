/- impl.copyVers and impl.storeOf: new lists, new chains, sorted by their keys. -/
import Derived.Test.YtifdfelpbonckaaRows0
import Derived.Test.YtifdfelpbonckaaCopyRun
namespace Go.Proofs.Ytifdfelpbonckaa
open Go.ChangeShapes Go.WideShapes Go.ChangeAt Go.RowKit Go.Maps Go.Sort
set_option linter.unusedVariables false
set_option maxRecDepth 100000
attribute [local go_sem ↓] Go.wp_at_zero Go.wp_at_succ

theorem copyVers_own (v : Value) (l : List Vr) (w : World) {lo hi : Nat} (h : VersAt lo hi w v l) (hn : l.length ≤ 1048576) :
    Calls Try.prog 36 #[v] w fun e w' => e = .returned (.slice (some ⟨w.heap.size, 0, none⟩) l.length l.length) ∧ OwnV w' w.heap.size l ∧ Below w.heap.size w w' := by
  obtain ⟨a, cap, rfl, hm, hc⟩ := h
  have hmk := make_vers l.length hn w
  have hsz : (Try.prog.info? 69).map (·.size) = some 2 := by kernel_rfl
  have hbA : Below w.heap.size w (w.alloc (.cells (madeCells #[.int .i64 0, .int .i64 0] (l.length * 2)) 69)) := (Below.refl _ _).alloc (Nat.le_refl _) _
  by_cases h0 : l.length = 0
  · have hcp := fun ty => run_copy_noneK (P := Try.prog) (w.alloc (.cells (madeCells #[.int .i64 0, .int .i64 0] (l.length * 2)) 69)) 47 47 ty 69 (some ⟨w.heap.size, 0, none⟩) a l.length l.length l.length cap 2 Try.underlying47 hsz (by rw [h0]; rfl)
    obtain ⟨W1, hW1⟩ : ∃ W1, w.alloc (.cells (madeCells #[.int .i64 0, .int .i64 0] (l.length * 2)) 69) = W1 := ⟨_, rfl⟩
    have hrow : W1.heap[w.heap.size]? = some (.cells (madeCells #[.int .i64 0, .int .i64 0] (l.length * 2)) 69 (0, 0)) := by rw [← hW1]; exact Deep.blk_alloc_new _ _
    rw [hW1] at hmk hcp hbA
    have H0 : Hid (l.length = 0) := h0
    clear hc hsz hW1 h0
    go_enter Try.func36, Try.ntmps36
    go_wp2
    go_ret
    exact ⟨rfl, ⟨fun _ => .int .i64 0, ⟨_, hrow, by rw [H0.out]; omega, fun j hj => absurd hj (by rw [H0.out]; omega)⟩, fun i hi => absurd hi (by rw [H0.out]; omega)⟩, hbA⟩
  · obtain ⟨b, off, rfl, hlo, hhi, hcc⟩ := hc (by omega)
    have hsrc : ∀ j v, (vcells l)[j]? = some v → (w.alloc (.cells (madeCells #[.int .i64 0, .int .i64 0] (l.length * 2)) 69)).cell? ((⟨b, off, none⟩ : Addr).add j) = some v := by
      intro j v hj
      have hjl : j < l.length * 2 := by rw [← vcells_length]; exact (List.getElem?_eq_some_iff.1 hj).1
      obtain ⟨g1, g2⟩ := vcells_get l (j / 2) (by omega)
      obtain ⟨k1, k2⟩ := hcc (j / 2) (by omega)
      refine cell_stays hbA ?_
      rcases Nat.mod_two_eq_zero_or_one j with hj2 | hj2
      · rw [show j = j / 2 * 2 by omega] at hj ⊢
        rw [g1] at hj
        cases hj
        rw [add_at]; exact k1
      · rw [show j = j / 2 * 2 + 1 by omega] at hj ⊢
        rw [g2] at hj
        cases hj
        rw [add_at]; exact k2
    have hcp := fun ty => run_copy_rowK (P := Try.prog) (w.alloc (.cells (madeCells #[.int .i64 0, .int .i64 0] (l.length * 2)) 69)) 47 47 ty 69 w.heap.size 0 l.length l.length ⟨b, off, none⟩ l.length cap _ _ (vcells l) l.length 2 Try.underlying47 hsz (Deep.blk_alloc_new _ _) (Nat.min_self _) (vcells_length l) hsrc (by rw [vcells_length, size_madeCells]; omega) (vcells_one l)
    obtain ⟨W2, hW2⟩ : ∃ W2, (w.alloc (.cells (madeCells #[.int .i64 0, .int .i64 0] (l.length * 2)) 69)).setRow w.heap.size (((madeCells #[.int .i64 0, .int .i64 0] (l.length * 2)).toList.take 0 ++ vcells l ++ (madeCells #[.int .i64 0, .int .i64 0] (l.length * 2)).toList.drop (0 + (vcells l).length)).toArray) = W2 := ⟨_, rfl⟩
    rw [hW2] at hcp
    have hrow : W2.heap[w.heap.size]? = some (.cells (vcells l).toArray 69 (0, 0)) := by
      have := setRow_heap (w.alloc (.cells (madeCells #[.int .i64 0, .int .i64 0] (l.length * 2)) 69)) w.heap.size _ (((madeCells #[.int .i64 0, .int .i64 0] (l.length * 2)).toList.take 0 ++ vcells l ++ (madeCells #[.int .i64 0, .int .i64 0] (l.length * 2)).toList.drop (0 + (vcells l).length)).toArray) _ _ (Deep.blk_alloc_new _ _)
      rw [hW2] at this
      rw [this]
      congr 2
      rw [List.drop_eq_nil_of_le (by rw [vcells_length, Array.length_toList, size_madeCells]; omega)]
      simp
    have hb2 : Below w.heap.size w W2 := by
      rw [← hW2]
      exact hbA.trans ⟨rfl, rfl, rfl, by simp [World.setRow], fun k hk => setRow_other _ _ k _ (by omega)⟩
    clear hc hsz hcc hsrc hW2
    go_enter Try.func36, Try.ntmps36
    go_wp2
    go_ret
    refine ⟨rfl, ⟨fun j => (vcells l).getD j (.int .i64 0), ⟨_, hrow, by simp [vcells_length], fun j hj => ?_⟩, fun i hi => ?_⟩, hb2⟩
    · have hj' : j < (vcells l).length := by rw [vcells_length]; exact hj
      simp [List.getD, List.getElem?_eq_getElem hj']
    · obtain ⟨g1, g2⟩ := vcells_get l i hi
      simp [List.getD, g1, g2]

end Go.Proofs.Ytifdfelpbonckaa
