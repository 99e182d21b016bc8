import Derived.Test.YtmecbppblbmchaaGreatDoorKeysIt
import Derived.Test.YtmecbppblbmchaaGreatDoorMCopy
/- impl.copyList at chains, rows, transactions and events: the new block, whole. -/
namespace Go.Proofs.YtmecbppblbmchaaGreatDoor
open Go.ChangeShapes Go.WideShapes Go.ChangeAt Go.RowKit Go.Maps Go.Sort
set_option linter.unusedVariables false
set_option maxRecDepth 100000
attribute [local go_sem ↓] Go.wp_at_zero Go.wp_at_succ

theorem copyVers_block (a : Option Addr) (n cap : Nat) (cs : List Value) (w : World) (hn : n ≤ 1048576) (hl : cs.length = n * 2) (h1 : ∀ v ∈ cs, v.oneCell' = true) (hc : CellsAt w a n cs) :
    Calls Tryz.prog 104 #[.slice a n cap] w fun e w' => e = .returned (.slice (some ⟨w.heap.size, 0, none⟩) n n) ∧ w'.heap[w.heap.size]? = some (.cells cs.toArray 123 (0, 0)) ∧ Below w.heap.size w w' := by
  have hmk := make_vers n hn w
  have hsz : (Tryz.prog.info? 123).map (·.size) = some 2 := by kernel_rfl
  have hbA : Below w.heap.size w (w.alloc (.cells (madeCells #[.int .i64 0, .int .i64 0] (n * 2)) 123)) := (Below.refl _ _).alloc (Nat.le_refl _) _
  by_cases h0 : n = 0
  · have hcp := fun ty => run_copy_noneK (P := Tryz.prog) (w.alloc (.cells (madeCells #[.int .i64 0, .int .i64 0] (n * 2)) 123)) 92 92 ty 123 (some ⟨w.heap.size, 0, none⟩) a n n n cap 2 Tryz.underlying92 hsz (by rw [h0]; rfl)
    obtain ⟨W1, hW1⟩ : ∃ W1, w.alloc (.cells (madeCells #[.int .i64 0, .int .i64 0] (n * 2)) 123) = W1 := ⟨_, rfl⟩
    have hrow : W1.heap[w.heap.size]? = some (.cells cs.toArray 123 (0, 0)) := by
      rw [← hW1, Deep.blk_alloc_new]
      subst h0
      have : cs = [] := List.eq_nil_of_length_eq_zero (by omega)
      subst this
      simp [madeCells]
    rw [hW1] at hmk hcp hbA
    clear hc hsz hW1 h0 hl h1
    go_enter Tryz.func104, Tryz.ntmps104
    go_wp2
    go_ret
    exact ⟨rfl, hrow, hbA⟩
  · obtain ⟨b, off, rfl, hcc⟩ := hc (by omega)
    have hsrc : ∀ j v, cs[j]? = some v → (w.alloc (.cells (madeCells #[.int .i64 0, .int .i64 0] (n * 2)) 123)).cell? ((⟨b, off, none⟩ : Addr).add j) = some v := fun j v hj => by
      rw [add_at]; exact cell_stays hbA (hcc j v hj)
    have hcp := fun ty => run_copy_rowK (P := Tryz.prog) (w.alloc (.cells (madeCells #[.int .i64 0, .int .i64 0] (n * 2)) 123)) 92 92 ty 123 w.heap.size 0 n n ⟨b, off, none⟩ n cap _ _ cs n 2 Tryz.underlying92 hsz (Deep.blk_alloc_new _ _) (Nat.min_self _) hl hsrc (by rw [hl, size_madeCells]; omega) h1
    obtain ⟨W2, hW2⟩ : ∃ W2, (w.alloc (.cells (madeCells #[.int .i64 0, .int .i64 0] (n * 2)) 123)).setRow w.heap.size (((madeCells #[.int .i64 0, .int .i64 0] (n * 2)).toList.take 0 ++ cs ++ (madeCells #[.int .i64 0, .int .i64 0] (n * 2)).toList.drop (0 + cs.length)).toArray) = W2 := ⟨_, rfl⟩
    rw [hW2] at hcp
    have hrow : W2.heap[w.heap.size]? = some (.cells cs.toArray 123 (0, 0)) := by
      have := setRow_heap (w.alloc (.cells (madeCells #[.int .i64 0, .int .i64 0] (n * 2)) 123)) w.heap.size _ (((madeCells #[.int .i64 0, .int .i64 0] (n * 2)).toList.take 0 ++ cs ++ (madeCells #[.int .i64 0, .int .i64 0] (n * 2)).toList.drop (0 + cs.length)).toArray) _ _ (Deep.blk_alloc_new _ _)
      rw [hW2] at this
      rw [this]
      congr 2
      rw [List.drop_eq_nil_of_le (by rw [hl, Array.length_toList, size_madeCells]; omega)]
      simp
    have hb2 : Below w.heap.size w W2 := by
      rw [← hW2]
      exact hbA.trans ⟨rfl, rfl, rfl, by simp [World.setRow], fun k hk => setRow_other _ _ k _ (by omega)⟩
    clear hc hsz hcc hsrc hW2 hl h1
    go_enter Tryz.func104, Tryz.ntmps104
    go_wp2
    go_ret
    exact ⟨rfl, hrow, hb2⟩

theorem copyChain_block (a : Option Addr) (n cap : Nat) (cs : List Value) (w : World) (hn : n ≤ 1048576) (hl : cs.length = n * 3) (h1 : ∀ v ∈ cs, v.oneCell' = true) (hc : CellsAt w a n cs) :
    Calls Tryz.prog 103 #[.slice a n cap] w fun e w' => e = .returned (.slice (some ⟨w.heap.size, 0, none⟩) n n) ∧ w'.heap[w.heap.size]? = some (.cells cs.toArray 94 (0, 0)) ∧ Below w.heap.size w w' := by
  have hmk := make_chains n hn w
  have hsz : (Tryz.prog.info? 94).map (·.size) = some 3 := by kernel_rfl
  have hbA : Below w.heap.size w (w.alloc (.cells (madeCells #[.int .i64 0, .int .i64 0, .slice none 0 0] (n * 3)) 94)) := (Below.refl _ _).alloc (Nat.le_refl _) _
  by_cases h0 : n = 0
  · have hcp := fun ty => run_copy_noneK (P := Tryz.prog) (w.alloc (.cells (madeCells #[.int .i64 0, .int .i64 0, .slice none 0 0] (n * 3)) 94)) 30 30 ty 94 (some ⟨w.heap.size, 0, none⟩) a n n n cap 3 Tryz.underlying30 hsz (by rw [h0]; rfl)
    obtain ⟨W1, hW1⟩ : ∃ W1, w.alloc (.cells (madeCells #[.int .i64 0, .int .i64 0, .slice none 0 0] (n * 3)) 94) = W1 := ⟨_, rfl⟩
    have hrow : W1.heap[w.heap.size]? = some (.cells cs.toArray 94 (0, 0)) := by
      rw [← hW1, Deep.blk_alloc_new]
      subst h0
      have : cs = [] := List.eq_nil_of_length_eq_zero (by omega)
      subst this
      simp [madeCells]
    rw [hW1] at hmk hcp hbA
    clear hc hsz hW1 h0 hl h1
    go_enter Tryz.func103, Tryz.ntmps103
    go_wp2
    go_ret
    exact ⟨rfl, hrow, hbA⟩
  · obtain ⟨b, off, rfl, hcc⟩ := hc (by omega)
    have hsrc : ∀ j v, cs[j]? = some v → (w.alloc (.cells (madeCells #[.int .i64 0, .int .i64 0, .slice none 0 0] (n * 3)) 94)).cell? ((⟨b, off, none⟩ : Addr).add j) = some v := fun j v hj => by
      rw [add_at]; exact cell_stays hbA (hcc j v hj)
    have hcp := fun ty => run_copy_rowK (P := Tryz.prog) (w.alloc (.cells (madeCells #[.int .i64 0, .int .i64 0, .slice none 0 0] (n * 3)) 94)) 30 30 ty 94 w.heap.size 0 n n ⟨b, off, none⟩ n cap _ _ cs n 3 Tryz.underlying30 hsz (Deep.blk_alloc_new _ _) (Nat.min_self _) hl hsrc (by rw [hl, size_madeCells]; omega) h1
    obtain ⟨W2, hW2⟩ : ∃ W2, (w.alloc (.cells (madeCells #[.int .i64 0, .int .i64 0, .slice none 0 0] (n * 3)) 94)).setRow w.heap.size (((madeCells #[.int .i64 0, .int .i64 0, .slice none 0 0] (n * 3)).toList.take 0 ++ cs ++ (madeCells #[.int .i64 0, .int .i64 0, .slice none 0 0] (n * 3)).toList.drop (0 + cs.length)).toArray) = W2 := ⟨_, rfl⟩
    rw [hW2] at hcp
    have hrow : W2.heap[w.heap.size]? = some (.cells cs.toArray 94 (0, 0)) := by
      have := setRow_heap (w.alloc (.cells (madeCells #[.int .i64 0, .int .i64 0, .slice none 0 0] (n * 3)) 94)) w.heap.size _ (((madeCells #[.int .i64 0, .int .i64 0, .slice none 0 0] (n * 3)).toList.take 0 ++ cs ++ (madeCells #[.int .i64 0, .int .i64 0, .slice none 0 0] (n * 3)).toList.drop (0 + cs.length)).toArray) _ _ (Deep.blk_alloc_new _ _)
      rw [hW2] at this
      rw [this]
      congr 2
      rw [List.drop_eq_nil_of_le (by rw [hl, Array.length_toList, size_madeCells]; omega)]
      simp
    have hb2 : Below w.heap.size w W2 := by
      rw [← hW2]
      exact hbA.trans ⟨rfl, rfl, rfl, by simp [World.setRow], fun k hk => setRow_other _ _ k _ (by omega)⟩
    clear hc hsz hcc hsrc hW2 hl h1
    go_enter Tryz.func103, Tryz.ntmps103
    go_wp2
    go_ret
    exact ⟨rfl, hrow, hb2⟩

theorem copyRow_block (a : Option Addr) (n cap : Nat) (cs : List Value) (w : World) (hn : n ≤ 1048576) (hl : cs.length = n * 3) (h1 : ∀ v ∈ cs, v.oneCell' = true) (hc : CellsAt w a n cs) :
    Calls Tryz.prog 68 #[.slice a n cap] w fun e w' => e = .returned (.slice (some ⟨w.heap.size, 0, none⟩) n n) ∧ w'.heap[w.heap.size]? = some (.cells cs.toArray 111 (0, 0)) ∧ Below w.heap.size w w' := by
  have hmk := make_rows n hn w
  have hsz : (Tryz.prog.info? 111).map (·.size) = some 3 := by kernel_rfl
  have hbA : Below w.heap.size w (w.alloc (.cells (madeCells #[.int .i64 0, .int .i64 0, .int .i64 0] (n * 3)) 111)) := (Below.refl _ _).alloc (Nat.le_refl _) _
  by_cases h0 : n = 0
  · have hcp := fun ty => run_copy_noneK (P := Tryz.prog) (w.alloc (.cells (madeCells #[.int .i64 0, .int .i64 0, .int .i64 0] (n * 3)) 111)) 95 95 ty 111 (some ⟨w.heap.size, 0, none⟩) a n n n cap 3 Tryz.underlying95 hsz (by rw [h0]; rfl)
    obtain ⟨W1, hW1⟩ : ∃ W1, w.alloc (.cells (madeCells #[.int .i64 0, .int .i64 0, .int .i64 0] (n * 3)) 111) = W1 := ⟨_, rfl⟩
    have hrow : W1.heap[w.heap.size]? = some (.cells cs.toArray 111 (0, 0)) := by
      rw [← hW1, Deep.blk_alloc_new]
      subst h0
      have : cs = [] := List.eq_nil_of_length_eq_zero (by omega)
      subst this
      simp [madeCells]
    rw [hW1] at hmk hcp hbA
    clear hc hsz hW1 h0 hl h1
    go_enter Tryz.func68, Tryz.ntmps68
    go_wp2
    go_ret
    exact ⟨rfl, hrow, hbA⟩
  · obtain ⟨b, off, rfl, hcc⟩ := hc (by omega)
    have hsrc : ∀ j v, cs[j]? = some v → (w.alloc (.cells (madeCells #[.int .i64 0, .int .i64 0, .int .i64 0] (n * 3)) 111)).cell? ((⟨b, off, none⟩ : Addr).add j) = some v := fun j v hj => by
      rw [add_at]; exact cell_stays hbA (hcc j v hj)
    have hcp := fun ty => run_copy_rowK (P := Tryz.prog) (w.alloc (.cells (madeCells #[.int .i64 0, .int .i64 0, .int .i64 0] (n * 3)) 111)) 95 95 ty 111 w.heap.size 0 n n ⟨b, off, none⟩ n cap _ _ cs n 3 Tryz.underlying95 hsz (Deep.blk_alloc_new _ _) (Nat.min_self _) hl hsrc (by rw [hl, size_madeCells]; omega) h1
    obtain ⟨W2, hW2⟩ : ∃ W2, (w.alloc (.cells (madeCells #[.int .i64 0, .int .i64 0, .int .i64 0] (n * 3)) 111)).setRow w.heap.size (((madeCells #[.int .i64 0, .int .i64 0, .int .i64 0] (n * 3)).toList.take 0 ++ cs ++ (madeCells #[.int .i64 0, .int .i64 0, .int .i64 0] (n * 3)).toList.drop (0 + cs.length)).toArray) = W2 := ⟨_, rfl⟩
    rw [hW2] at hcp
    have hrow : W2.heap[w.heap.size]? = some (.cells cs.toArray 111 (0, 0)) := by
      have := setRow_heap (w.alloc (.cells (madeCells #[.int .i64 0, .int .i64 0, .int .i64 0] (n * 3)) 111)) w.heap.size _ (((madeCells #[.int .i64 0, .int .i64 0, .int .i64 0] (n * 3)).toList.take 0 ++ cs ++ (madeCells #[.int .i64 0, .int .i64 0, .int .i64 0] (n * 3)).toList.drop (0 + cs.length)).toArray) _ _ (Deep.blk_alloc_new _ _)
      rw [hW2] at this
      rw [this]
      congr 2
      rw [List.drop_eq_nil_of_le (by rw [hl, Array.length_toList, size_madeCells]; omega)]
      simp
    have hb2 : Below w.heap.size w W2 := by
      rw [← hW2]
      exact hbA.trans ⟨rfl, rfl, rfl, by simp [World.setRow], fun k hk => setRow_other _ _ k _ (by omega)⟩
    clear hc hsz hcc hsrc hW2 hl h1
    go_enter Tryz.func68, Tryz.ntmps68
    go_wp2
    go_ret
    exact ⟨rfl, hrow, hb2⟩

theorem copyTx_block (a : Option Addr) (n cap : Nat) (cs : List Value) (w : World) (hn : n ≤ 1048576) (hl : cs.length = n * 3) (h1 : ∀ v ∈ cs, v.oneCell' = true) (hc : CellsAt w a n cs) :
    Calls Tryz.prog 66 #[.slice a n cap] w fun e w' => e = .returned (.slice (some ⟨w.heap.size, 0, none⟩) n n) ∧ w'.heap[w.heap.size]? = some (.cells cs.toArray 97 (0, 0)) ∧ Below w.heap.size w w' := by
  have hmk := make_txs n hn w
  have hsz : (Tryz.prog.info? 97).map (·.size) = some 3 := by kernel_rfl
  have hbA : Below w.heap.size w (w.alloc (.cells (madeCells #[.int .i64 0, .int .i64 0, .slice none 0 0] (n * 3)) 97)) := (Below.refl _ _).alloc (Nat.le_refl _) _
  by_cases h0 : n = 0
  · have hcp := fun ty => run_copy_noneK (P := Tryz.prog) (w.alloc (.cells (madeCells #[.int .i64 0, .int .i64 0, .slice none 0 0] (n * 3)) 97)) 33 33 ty 97 (some ⟨w.heap.size, 0, none⟩) a n n n cap 3 Tryz.underlying33 hsz (by rw [h0]; rfl)
    obtain ⟨W1, hW1⟩ : ∃ W1, w.alloc (.cells (madeCells #[.int .i64 0, .int .i64 0, .slice none 0 0] (n * 3)) 97) = W1 := ⟨_, rfl⟩
    have hrow : W1.heap[w.heap.size]? = some (.cells cs.toArray 97 (0, 0)) := by
      rw [← hW1, Deep.blk_alloc_new]
      subst h0
      have : cs = [] := List.eq_nil_of_length_eq_zero (by omega)
      subst this
      simp [madeCells]
    rw [hW1] at hmk hcp hbA
    clear hc hsz hW1 h0 hl h1
    go_enter Tryz.func66, Tryz.ntmps66
    go_wp2
    go_ret
    exact ⟨rfl, hrow, hbA⟩
  · obtain ⟨b, off, rfl, hcc⟩ := hc (by omega)
    have hsrc : ∀ j v, cs[j]? = some v → (w.alloc (.cells (madeCells #[.int .i64 0, .int .i64 0, .slice none 0 0] (n * 3)) 97)).cell? ((⟨b, off, none⟩ : Addr).add j) = some v := fun j v hj => by
      rw [add_at]; exact cell_stays hbA (hcc j v hj)
    have hcp := fun ty => run_copy_rowK (P := Tryz.prog) (w.alloc (.cells (madeCells #[.int .i64 0, .int .i64 0, .slice none 0 0] (n * 3)) 97)) 33 33 ty 97 w.heap.size 0 n n ⟨b, off, none⟩ n cap _ _ cs n 3 Tryz.underlying33 hsz (Deep.blk_alloc_new _ _) (Nat.min_self _) hl hsrc (by rw [hl, size_madeCells]; omega) h1
    obtain ⟨W2, hW2⟩ : ∃ W2, (w.alloc (.cells (madeCells #[.int .i64 0, .int .i64 0, .slice none 0 0] (n * 3)) 97)).setRow w.heap.size (((madeCells #[.int .i64 0, .int .i64 0, .slice none 0 0] (n * 3)).toList.take 0 ++ cs ++ (madeCells #[.int .i64 0, .int .i64 0, .slice none 0 0] (n * 3)).toList.drop (0 + cs.length)).toArray) = W2 := ⟨_, rfl⟩
    rw [hW2] at hcp
    have hrow : W2.heap[w.heap.size]? = some (.cells cs.toArray 97 (0, 0)) := by
      have := setRow_heap (w.alloc (.cells (madeCells #[.int .i64 0, .int .i64 0, .slice none 0 0] (n * 3)) 97)) w.heap.size _ (((madeCells #[.int .i64 0, .int .i64 0, .slice none 0 0] (n * 3)).toList.take 0 ++ cs ++ (madeCells #[.int .i64 0, .int .i64 0, .slice none 0 0] (n * 3)).toList.drop (0 + cs.length)).toArray) _ _ (Deep.blk_alloc_new _ _)
      rw [hW2] at this
      rw [this]
      congr 2
      rw [List.drop_eq_nil_of_le (by rw [hl, Array.length_toList, size_madeCells]; omega)]
      simp
    have hb2 : Below w.heap.size w W2 := by
      rw [← hW2]
      exact hbA.trans ⟨rfl, rfl, rfl, by simp [World.setRow], fun k hk => setRow_other _ _ k _ (by omega)⟩
    clear hc hsz hcc hsrc hW2 hl h1
    go_enter Tryz.func66, Tryz.ntmps66
    go_wp2
    go_ret
    exact ⟨rfl, hrow, hb2⟩

theorem copyEv_block (a : Option Addr) (n cap : Nat) (cs : List Value) (w : World) (hn : n ≤ 1048576) (hl : cs.length = n * 6) (h1 : ∀ v ∈ cs, v.oneCell' = true) (hc : CellsAt w a n cs) :
    Calls Tryz.prog 67 #[.slice a n cap] w fun e w' => e = .returned (.slice (some ⟨w.heap.size, 0, none⟩) n n) ∧ w'.heap[w.heap.size]? = some (.cells cs.toArray 101 (0, 0)) ∧ Below w.heap.size w w' := by
  have hmk := make_evs n hn w
  have hsz : (Tryz.prog.info? 101).map (·.size) = some 6 := by kernel_rfl
  have hbA : Below w.heap.size w (w.alloc (.cells (madeCells #[.int .i64 0, .int .i64 0, .int .i64 0, .int .i64 0, .int .i64 0, .int .i64 0] (n * 6)) 101)) := (Below.refl _ _).alloc (Nat.le_refl _) _
  by_cases h0 : n = 0
  · have hcp := fun ty => run_copy_noneK (P := Tryz.prog) (w.alloc (.cells (madeCells #[.int .i64 0, .int .i64 0, .int .i64 0, .int .i64 0, .int .i64 0, .int .i64 0] (n * 6)) 101)) 34 34 ty 101 (some ⟨w.heap.size, 0, none⟩) a n n n cap 6 Tryz.underlying34 hsz (by rw [h0]; rfl)
    obtain ⟨W1, hW1⟩ : ∃ W1, w.alloc (.cells (madeCells #[.int .i64 0, .int .i64 0, .int .i64 0, .int .i64 0, .int .i64 0, .int .i64 0] (n * 6)) 101) = W1 := ⟨_, rfl⟩
    have hrow : W1.heap[w.heap.size]? = some (.cells cs.toArray 101 (0, 0)) := by
      rw [← hW1, Deep.blk_alloc_new]
      subst h0
      have : cs = [] := List.eq_nil_of_length_eq_zero (by omega)
      subst this
      simp [madeCells]
    rw [hW1] at hmk hcp hbA
    clear hc hsz hW1 h0 hl h1
    go_enter Tryz.func67, Tryz.ntmps67
    go_wp2
    go_ret
    exact ⟨rfl, hrow, hbA⟩
  · obtain ⟨b, off, rfl, hcc⟩ := hc (by omega)
    have hsrc : ∀ j v, cs[j]? = some v → (w.alloc (.cells (madeCells #[.int .i64 0, .int .i64 0, .int .i64 0, .int .i64 0, .int .i64 0, .int .i64 0] (n * 6)) 101)).cell? ((⟨b, off, none⟩ : Addr).add j) = some v := fun j v hj => by
      rw [add_at]; exact cell_stays hbA (hcc j v hj)
    have hcp := fun ty => run_copy_rowK (P := Tryz.prog) (w.alloc (.cells (madeCells #[.int .i64 0, .int .i64 0, .int .i64 0, .int .i64 0, .int .i64 0, .int .i64 0] (n * 6)) 101)) 34 34 ty 101 w.heap.size 0 n n ⟨b, off, none⟩ n cap _ _ cs n 6 Tryz.underlying34 hsz (Deep.blk_alloc_new _ _) (Nat.min_self _) hl hsrc (by rw [hl, size_madeCells]; omega) h1
    obtain ⟨W2, hW2⟩ : ∃ W2, (w.alloc (.cells (madeCells #[.int .i64 0, .int .i64 0, .int .i64 0, .int .i64 0, .int .i64 0, .int .i64 0] (n * 6)) 101)).setRow w.heap.size (((madeCells #[.int .i64 0, .int .i64 0, .int .i64 0, .int .i64 0, .int .i64 0, .int .i64 0] (n * 6)).toList.take 0 ++ cs ++ (madeCells #[.int .i64 0, .int .i64 0, .int .i64 0, .int .i64 0, .int .i64 0, .int .i64 0] (n * 6)).toList.drop (0 + cs.length)).toArray) = W2 := ⟨_, rfl⟩
    rw [hW2] at hcp
    have hrow : W2.heap[w.heap.size]? = some (.cells cs.toArray 101 (0, 0)) := by
      have := setRow_heap (w.alloc (.cells (madeCells #[.int .i64 0, .int .i64 0, .int .i64 0, .int .i64 0, .int .i64 0, .int .i64 0] (n * 6)) 101)) w.heap.size _ (((madeCells #[.int .i64 0, .int .i64 0, .int .i64 0, .int .i64 0, .int .i64 0, .int .i64 0] (n * 6)).toList.take 0 ++ cs ++ (madeCells #[.int .i64 0, .int .i64 0, .int .i64 0, .int .i64 0, .int .i64 0, .int .i64 0] (n * 6)).toList.drop (0 + cs.length)).toArray) _ _ (Deep.blk_alloc_new _ _)
      rw [hW2] at this
      rw [this]
      congr 2
      rw [List.drop_eq_nil_of_le (by rw [hl, Array.length_toList, size_madeCells]; omega)]
      simp
    have hb2 : Below w.heap.size w W2 := by
      rw [← hW2]
      exact hbA.trans ⟨rfl, rfl, rfl, by simp [World.setRow], fun k hk => setRow_other _ _ k _ (by omega)⟩
    clear hc hsz hcc hsrc hW2 hl h1
    go_enter Tryz.func67, Tryz.ntmps67
    go_wp2
    go_ret
    exact ⟨rfl, hrow, hb2⟩

end Go.Proofs.YtmecbppblbmchaaGreatDoor
