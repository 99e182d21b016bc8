/- The specification's reader in the bad mode: each part answers nothing and takes no word. -/
import Derived.Test.YtkdlgglikhbnkacSNode
namespace Go.Proofs.Ytkdlgglikhbnkac
open Go.ChangeShapes Go.WideShapes Go.ChangeAt Go.RowKit
set_option linter.unusedVariables false
set_option maxRecDepth 100000
attribute [local go_sem ↓] Go.wp_at_zero Go.wp_at_succ

theorem sexpr_bad {base rb : Nat} {T : List Tk} {tv pv : Value} {w : World} {i : Nat} (h : Bd base rb T tv pv w i) :
    Calls Try.prog 71 #[.pointer (some ⟨rb, 0, none⟩)] w fun e w' => e = .returned (.int .i64 0) ∧ Bd base rb T tv pv w' i ∧ Fz rb w w' := by
  go_enter Try.func71, Try.ntmps71
  go_wp2_with fail
  refine (sdown_bad h).mono ?_
  rintro e w1 ⟨rfl, h1, f1⟩
  go_wp2
  go_ret
  exact ⟨rfl, h1, f1⟩

theorem sblock_bad {base rb : Nat} {T : List Tk} {tv pv : Value} {w : World} {i : Nat} (h : Bd base rb T tv pv w i) :
    Calls Try.prog 43 #[.pointer (some ⟨rb, 0, none⟩)] w fun e w' => e = .returned (.int .i64 0) ∧ Bd base rb T tv pv w' i ∧ Fz rb w w' := by
  go_enter Try.func43, Try.ntmps43
  go_wp2_with fail
  refine (sdown_bad h).mono ?_
  rintro e w1 ⟨rfl, h1, f1⟩
  go_wp2
  go_ret
  exact ⟨rfl, h1, f1⟩

theorem ssigned_bad {base rb : Nat} {T : List Tk} {tv pv : Value} {w : World} {i : Nat} (h : Bd base rb T tv pv w i) :
    Calls Try.prog 84 #[.pointer (some ⟨rb, 0, none⟩)] w fun e w' => e = .returned (.int .i64 0) ∧ Bd base rb T tv pv w' i ∧ Fz rb w w' := by
  rcases ht : tkAt T i with ⟨tk, ts, tn, tp⟩
  have HT : Hid (tkAt T i = ⟨tk, ts, tn, tp⟩) := ht
  clear ht
  go_enter Try.func84, Try.ntmps84
  go_wp2_with fail
  refine (stake_bad h _).mono ?_
  rintro e w1 ⟨rfl, h1, f1⟩
  go_wp2_with fail
  refine (stake_bad h1 _).mono ?_
  rintro e w2 ⟨rfl, h2, f2⟩
  have ht := tok_any h2.wd
  rw [HT.out] at ht
  dsimp only at ht
  go_wp2_with fail
  refine ht.mono ?_
  clear ht
  rintro e w3 ⟨rfl, hb3⟩
  have h3 := h2.stays hb3
  have f3 := (f1.trans f2).trans (Fz.of_below hb3)
  have bA : Below w3.heap.size w3 (w3.alloc (Obj.cells #[.int .i64 tk, .string ts, .int .i64 tn, .int .i64 tp] 59)) := (Below.refl _ _).alloc (Nat.le_refl _) _
  have h4 := h3.stays bA
  have f4 := f3.trans (Fz.of_below bA)
  have y0 : (w3.alloc (Obj.cells #[.int .i64 tk, .string ts, .int .i64 tn, .int .i64 tp] 59)).cell? ⟨w3.heap.size, 0, none⟩ = some (.int .i64 tk) := by simp [go_sem]
  have y1 : (w3.alloc (Obj.cells #[.int .i64 tk, .string ts, .int .i64 tn, .int .i64 tp] 59)).cell? ⟨w3.heap.size, 1, none⟩ = some (.string ts) := by simp [go_sem]
  have y2 : (w3.alloc (Obj.cells #[.int .i64 tk, .string ts, .int .i64 tn, .int .i64 tp] 59)).cell? ⟨w3.heap.size, 2, none⟩ = some (.int .i64 tn) := by simp [go_sem]
  have hrb : w3.heap.size ≠ rb := by have := h3.lt; omega
  have hlt : w3.heap.size < (w3.alloc (Obj.cells #[.int .i64 tk, .string ts, .int .i64 tn, .int .i64 tp] 59)).heap.size := by simp
  obtain ⟨d4, nv4, pv4, hr4⟩ := h4.row
  have c5 : (w3.alloc (Obj.cells #[.int .i64 tk, .string ts, .int .i64 tn, .int .i64 tp] 59)).cell? ⟨rb, 5, none⟩ = some (.bool true) := hr4.cell (by omega)
  have z5 := hr4.frozen 5
  have h5 := h4.again
  have f5 := f4.trans (Fz.set (rb := rb) (w := (w3.alloc (Obj.cells #[.int .i64 tk, .string ts, .int .i64 tn, .int .i64 tp] 59))) 5 (.bool true))
  clear hr4
  by_cases hk1 : tk = 1
  · subst hk1
    go_wp2_with fail
    generalize (w3.alloc (Obj.cells #[.int .i64 1, .string ts, .int .i64 tn, .int .i64 tp] 59)) = w4 at *
    refine (skind_bad h4 _).mono ?_
    rintro e w6 ⟨rfl, h6, f6⟩
    have x2 : w6.cell? ⟨w3.heap.size, 2, none⟩ = some (.int .i64 tn) := cell_same (f6.block _ hlt hrb) y2
    go_wp2_with fail
    refine (snode_bad h6 _ _ _ _ _ _).mono ?_
    rintro e w7 ⟨rfl, h7, f7⟩
    go_wp2
    go_ret
    exact ⟨rfl, h7, (f4.trans f6).trans f7⟩
  · by_cases hk2 : tk = 2
    · subst hk2
      go_wp2_with fail
      generalize (w3.alloc (Obj.cells #[.int .i64 2, .string ts, .int .i64 tn, .int .i64 tp] 59)) = w4 at *
      refine (skind_bad h4 _).mono ?_
      rintro e w6 ⟨rfl, h6, f6⟩
      have x1 : w6.cell? ⟨w3.heap.size, 1, none⟩ = some (.string ts) := cell_same (f6.block _ hlt hrb) y1
      go_wp2_with fail
      refine (snode_bad h6 _ _ _ _ _ _).mono ?_
      rintro e w7 ⟨rfl, h7, f7⟩
      go_wp2
      go_ret
      exact ⟨rfl, h7, (f4.trans f6).trans f7⟩
    · go_wp2
      go_ret
      exact ⟨rfl, h5, f5⟩

theorem sproduct_bad {base rb : Nat} {T : List Tk} {tv pv : Value} {w : World} {i : Nat} (h : Bd base rb T tv pv w i) :
    Calls Try.prog 81 #[.pointer (some ⟨rb, 0, none⟩)] w fun e w' => e = .returned (.int .i64 0) ∧ Bd base rb T tv pv w' i ∧ Fz rb w w' := by
  go_enter Try.func81, Try.ntmps81
  go_wp2_with fail
  refine (ssigned_bad h).mono ?_
  rintro e w1 ⟨rfl, h1, f1⟩
  go_wp2_with fail
  go_loopw [3] (fun t3 wr => t3 = .int .i64 0 ∧ Bd base rb T tv pv wr i ∧ Fz rb w wr) (fun _ _ => 0)
  case atStart => exact ⟨rfl, h1, f1⟩
  case round =>
    rename World => wo
    obtain ⟨rfl, hR, fR⟩ := hrel
    go_wp2_with fail
    refine (is_any hR.wd _).mono ?_
    rintro e w2 ⟨rfl, hb2⟩
    have h2 := hR.stays hb2
    have f2 := fR.trans (Fz.of_below (rb := rb) hb2)
    have is3 := fun x => is_any h2.wd x
    rcases isB T i (ByteArray.mk #[47]) <;>
    · go_wp2_with fail
      refine (is3 _).mono ?_
      rintro e w3 ⟨rfl, hb3⟩
      have h3 := h2.stays hb3
      have f3 := f2.trans (Fz.of_below (rb := rb) hb3)
      rcases isB T i (ByteArray.mk #[37]) <;>
      · go_wp2_with fail
        refine (stake_bad h3 _).mono ?_
        rintro e w4 ⟨rfl, h4, f4⟩
        go_wp2_with fail
        refine (stake_bad h4 _).mono ?_
        rintro e w5 ⟨rfl, h5, f5⟩
        go_wp2_with fail
        refine (stake_bad h5 _).mono ?_
        rintro e w6 ⟨rfl, h6, f6⟩
        go_wp2
        go_ret
        exact ⟨rfl, h6, ((f3.trans f4).trans f5).trans f6⟩

theorem ssum_bad {base rb : Nat} {T : List Tk} {tv pv : Value} {w : World} {i : Nat} (h : Bd base rb T tv pv w i) :
    Calls Try.prog 77 #[.pointer (some ⟨rb, 0, none⟩)] w fun e w' => e = .returned (.int .i64 0) ∧ Bd base rb T tv pv w' i ∧ Fz rb w w' := by
  go_enter Try.func77, Try.ntmps77
  go_wp2_with fail
  refine (sproduct_bad h).mono ?_
  rintro e w1 ⟨rfl, h1, f1⟩
  go_wp2_with fail
  go_loopw [3] (fun t3 wr => t3 = .int .i64 0 ∧ Bd base rb T tv pv wr i ∧ Fz rb w wr) (fun _ _ => 0)
  case atStart => exact ⟨rfl, h1, f1⟩
  case round =>
    rename World => wo
    obtain ⟨rfl, hR, fR⟩ := hrel
    go_wp2_with fail
    refine (is_any hR.wd _).mono ?_
    rintro e w2 ⟨rfl, hb2⟩
    have h2 := hR.stays hb2
    have f2 := fR.trans (Fz.of_below (rb := rb) hb2)
    rcases isB T i (ByteArray.mk #[45]) <;>
    · go_wp2_with fail
      refine (stake_bad h2 _).mono ?_
      rintro e w4 ⟨rfl, h4, f4⟩
      go_wp2_with fail
      refine (stake_bad h4 _).mono ?_
      rintro e w5 ⟨rfl, h5, f5⟩
      go_wp2
      go_ret
      exact ⟨rfl, h5, (f2.trans f4).trans f5⟩

theorem srow_bad {base rb : Nat} {T : List Tk} {tv pv : Value} {w : World} {i : Nat} (h : Bd base rb T tv pv w i) :
    Calls Try.prog 70 #[.pointer (some ⟨rb, 0, none⟩)] w fun e w' => e = .returned (.tuple #[.int .i64 0, .int .i64 0]) ∧ Bd base rb T tv pv w' i ∧ Fz rb w w' := by
  go_enter Try.func70, Try.ntmps70
  go_wp2_with fail
  refine (skind_bad h _).mono ?_
  rintro e w1 ⟨rfl, h1, f1⟩
  have bA : Below w1.heap.size w1 (w1.alloc (Obj.cells #[.int .i64 0, .string ⟨#[]⟩, .int .i64 0, .int .i64 0] 59)) := (Below.refl _ _).alloc (Nat.le_refl _) _
  have h2 := h1.stays bA
  have f2 := f1.trans (Fz.of_below (rb := rb) bA)
  have y2 : (w1.alloc (Obj.cells #[.int .i64 0, .string ⟨#[]⟩, .int .i64 0, .int .i64 0] 59)).cell? ⟨w1.heap.size, 2, none⟩ = some (.int .i64 0) := by simp [go_sem]
  have hrb : w1.heap.size ≠ rb := by have := h1.lt; omega
  have hlt : w1.heap.size < (w1.alloc (Obj.cells #[.int .i64 0, .string ⟨#[]⟩, .int .i64 0, .int .i64 0] 59)).heap.size := by simp
  go_wp2_with fail
  generalize (w1.alloc (Obj.cells #[.int .i64 0, .string ⟨#[]⟩, .int .i64 0, .int .i64 0] 59)) = w2 at *
  refine (swant_bad h2 _).mono ?_
  rintro e w3 ⟨rfl, h3, f3⟩
  go_wp2_with fail
  refine (sexpr_bad h3).mono ?_
  rintro e w4 ⟨rfl, h4, f4⟩
  go_wp2_with fail
  refine (swant_bad h4 _).mono ?_
  rintro e w5 ⟨rfl, h5, f5⟩
  have f25 := (f3.trans f4).trans f5
  have x2 := cell_same (f25.block _ hlt hrb) y2
  go_wp2
  go_ret2
  exact ⟨rfl, h5, f2.trans f25⟩

theorem sstmt_bad {base rb : Nat} {T : List Tk} {tv pv : Value} {w : World} {i : Nat} (h : Bd base rb T tv pv w i) :
    Calls Try.prog 61 #[.pointer (some ⟨rb, 0, none⟩)] w fun e w' => e = .returned (.int .i64 0) ∧ Bd base rb T tv pv w' i ∧ Fz rb w w' := by
  go_enter Try.func61, Try.ntmps61
  go_wp2_with fail
  refine (stake_bad h _).mono ?_
  rintro e wa ⟨rfl, ha, fa⟩
  go_wp2_with fail
  refine (stake_bad ha _).mono ?_
  rintro e wb ⟨rfl, hb, fb⟩
  replace fb := fa.trans fb
  go_wp2_with fail
  refine (stake_bad hb _).mono ?_
  rintro e wc ⟨rfl, hc, fc⟩
  replace fc := fb.trans fc
  go_wp2_with fail
  refine (stake_bad hc _).mono ?_
  rintro e wd ⟨rfl, hd, fd⟩
  replace fd := fc.trans fd
  go_wp2_with fail
  refine (stake_bad hd _).mono ?_
  rintro e we ⟨rfl, he, fe⟩
  replace fe := fd.trans fe
  clear fa fb fc fd ha hb hc hd
  go_wp2_with fail
  refine (skind_bad he _).mono ?_
  rintro e w1 ⟨rfl, h1, f1⟩
  replace f1 := fe.trans f1
  have bA : Below w1.heap.size w1 (w1.alloc (Obj.cells #[.int .i64 0, .string ⟨#[]⟩, .int .i64 0, .int .i64 0] 59)) := (Below.refl _ _).alloc (Nat.le_refl _) _
  have h2 := h1.stays bA
  have f2 := f1.trans (Fz.of_below (rb := rb) bA)
  have y1 : (w1.alloc (Obj.cells #[.int .i64 0, .string ⟨#[]⟩, .int .i64 0, .int .i64 0] 59)).cell? ⟨w1.heap.size, 1, none⟩ = some (.string ⟨#[]⟩) := by simp [go_sem]
  have hrb : w1.heap.size ≠ rb := by have := h1.lt; omega
  have hlt : w1.heap.size < (w1.alloc (Obj.cells #[.int .i64 0, .string ⟨#[]⟩, .int .i64 0, .int .i64 0] 59)).heap.size := by simp
  go_wp2_with fail
  generalize (w1.alloc (Obj.cells #[.int .i64 0, .string ⟨#[]⟩, .int .i64 0, .int .i64 0] 59)) = w2 at *
  refine (swant_bad h2 _).mono ?_
  rintro e w3 ⟨rfl, h3, f3⟩
  go_wp2_with fail
  refine (stake_bad h3 _).mono ?_
  rintro e w4 ⟨rfl, h4, f4⟩
  replace f4 := f3.trans f4
  go_wp2_with fail
  refine (sexpr_bad h4).mono ?_
  rintro e w5 ⟨rfl, h5, f5⟩
  replace f5 := f4.trans f5
  go_wp2_with fail
  refine (swant_bad h5 _).mono ?_
  rintro e w6 ⟨rfl, h6, f6⟩
  replace f6 := f5.trans f6
  have x1 := cell_same (f6.block _ hlt hrb) y1
  have h7 : Bd base rb T tv pv (w6.alloc (Obj.cells #[.int .i64 0] 3)) i := h6.stays ((Below.refl _ _).alloc (Nat.le_refl _) _)
  have f7 : Fz rb w (w6.alloc (Obj.cells #[.int .i64 0] 3)) := (f2.trans f6).trans (Fz.of_below ((Below.refl _ _).alloc (Nat.le_refl _) _))
  go_wp2_with fail
  refine (snode_bad h7 _ _ _ _ _ _).mono ?_
  rintro e w8 ⟨rfl, h8, f8⟩
  go_wp2
  go_ret
  exact ⟨rfl, h8, f7.trans f8⟩

end Go.Proofs.Ytkdlgglikhbnkac
