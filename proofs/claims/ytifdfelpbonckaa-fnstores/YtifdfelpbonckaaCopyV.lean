/- impl.copyList at versions: the new block, whole. -/
import Derived.Test.YtifdfelpbonckaaStoreOf2
namespace Go.Proofs.Ytifdfelpbonckaa
open Go.ChangeShapes Go.WideShapes Go.ChangeAt Go.RowKit Go.Maps Go.Sort
set_option linter.unusedVariables false
set_option maxRecDepth 100000
attribute [local go_sem ↓] Go.wp_at_zero Go.wp_at_succ

theorem copyVer_block (a : Option Addr) (n cap : Nat) (cs : List Value) (w : World) (hn : n ≤ 1048576) (hl : cs.length = n * 2) (h1 : ∀ v ∈ cs, v.oneCell' = true) (hc : CellsAt w a n cs) :
    Calls Try.prog 36 #[.slice a n cap] w fun e w' => e = .returned (.slice (some ⟨w.heap.size, 0, none⟩) n n) ∧ w'.heap[w.heap.size]? = some (.cells cs.toArray 69 (0, 0)) ∧ Below w.heap.size w w' := by
  have hmk := make_vers n hn w
  have hsz : (Try.prog.info? 69).map (·.size) = some 2 := by kernel_rfl
  have hbA : Below w.heap.size w (w.alloc (.cells (madeCells #[.int .i64 0, .int .i64 0] (n * 2)) 69)) := (Below.refl _ _).alloc (Nat.le_refl _) _
  by_cases h0 : n = 0
  · have hcp := fun ty => run_copy_noneK (P := Try.prog) (w.alloc (.cells (madeCells #[.int .i64 0, .int .i64 0] (n * 2)) 69)) 47 47 ty 69 (some ⟨w.heap.size, 0, none⟩) a n n n cap 2 Try.underlying47 hsz (by rw [h0]; rfl)
    obtain ⟨W1, hW1⟩ : ∃ W1, w.alloc (.cells (madeCells #[.int .i64 0, .int .i64 0] (n * 2)) 69) = W1 := ⟨_, rfl⟩
    have hrow : W1.heap[w.heap.size]? = some (.cells cs.toArray 69 (0, 0)) := by
      rw [← hW1, Deep.blk_alloc_new]
      subst h0
      have : cs = [] := List.eq_nil_of_length_eq_zero (by omega)
      subst this
      simp [madeCells]
    rw [hW1] at hmk hcp hbA
    clear hc hsz hW1 h0 hl h1
    go_enter Try.func36, Try.ntmps36
    go_wp2
    go_ret
    exact ⟨rfl, hrow, hbA⟩
  · obtain ⟨b, off, rfl, hcc⟩ := hc (by omega)
    have hsrc : ∀ j v, cs[j]? = some v → (w.alloc (.cells (madeCells #[.int .i64 0, .int .i64 0] (n * 2)) 69)).cell? ((⟨b, off, none⟩ : Addr).add j) = some v := fun j v hj => by
      rw [add_at]; exact cell_stays hbA (hcc j v hj)
    have hcp := fun ty => run_copy_rowK (P := Try.prog) (w.alloc (.cells (madeCells #[.int .i64 0, .int .i64 0] (n * 2)) 69)) 47 47 ty 69 w.heap.size 0 n n ⟨b, off, none⟩ n cap _ _ cs n 2 Try.underlying47 hsz (Deep.blk_alloc_new _ _) (Nat.min_self _) hl hsrc (by rw [hl, size_madeCells]; omega) h1
    obtain ⟨W2, hW2⟩ : ∃ W2, (w.alloc (.cells (madeCells #[.int .i64 0, .int .i64 0] (n * 2)) 69)).setRow w.heap.size (((madeCells #[.int .i64 0, .int .i64 0] (n * 2)).toList.take 0 ++ cs ++ (madeCells #[.int .i64 0, .int .i64 0] (n * 2)).toList.drop (0 + cs.length)).toArray) = W2 := ⟨_, rfl⟩
    rw [hW2] at hcp
    have hrow : W2.heap[w.heap.size]? = some (.cells cs.toArray 69 (0, 0)) := by
      have := setRow_heap (w.alloc (.cells (madeCells #[.int .i64 0, .int .i64 0] (n * 2)) 69)) w.heap.size _ (((madeCells #[.int .i64 0, .int .i64 0] (n * 2)).toList.take 0 ++ cs ++ (madeCells #[.int .i64 0, .int .i64 0] (n * 2)).toList.drop (0 + cs.length)).toArray) _ _ (Deep.blk_alloc_new _ _)
      rw [hW2] at this
      rw [this]
      congr 2
      rw [List.drop_eq_nil_of_le (by rw [hl, Array.length_toList, size_madeCells]; omega)]
      simp
    have hb2 : Below w.heap.size w W2 := by
      rw [← hW2]
      exact hbA.trans ⟨rfl, rfl, rfl, by simp [World.setRow], fun k hk => setRow_other _ _ k _ (by omega)⟩
    clear hc hsz hcc hsrc hW2 hl h1
    go_enter Try.func36, Try.ntmps36
    go_wp2
    go_ret
    exact ⟨rfl, hrow, hb2⟩

theorem ownsRow_of_block {w : World} {base g n k : Nat} {T : TypeId} {cs : List Value} (hb : w.heap[g]? = some (.cells cs.toArray T (0, 0))) (hl : cs.length = n * k) (hg : base ≤ g) (hn : n ≤ maxLen) : w.ownsRow base T k (.slice (some ⟨g, 0, none⟩) n n) n cs :=
  ⟨hl, .inr ⟨g, n, cs.toArray, rfl, hg, hb, Nat.le_refl _, hn, by simpa using hl, by simp [← hl]⟩⟩

theorem vcells_snoc (l : List Vr) (h v : Int) : vcells (l ++ [(h, v)]) = vcells l ++ [.int .i64 h, .int .i64 v] := by simp [vcells]

theorem vcells_flatK (l : List Vr) : vcells l = flatK l := rfl

end Go.Proofs.Ytifdfelpbonckaa
