/- A number's text: laws.dec. -/
import Derived.Test.YtfliahkcfnpjcabRelex
namespace Go.Proofs.Ytfliahkcfnpjcab
open Go.ChangeShapes Go.WideShapes Go.ChangeAt Go.RowKit
set_option linter.unusedVariables false
set_option maxRecDepth 100000
attribute [local go_sem ↓] Go.wp_at_zero Go.wp_at_succ

def tenS : ByteArray := ⟨#[48, 49, 50, 51, 52, 53, 54, 55, 56, 57]⟩
theorem ten_piece {d : Nat} (h : d < 10) : tenS.extract d (d + 1) = ⟨[UInt8.ofNat (48 + d)].toArray⟩ := by
  have : ∀ d : Fin 10, tenS.extract d.1 (d.1 + 1) = ⟨[UInt8.ofNat (48 + d.1)].toArray⟩ := by decide +kernel
  exact this ⟨d, h⟩
theorem ten_slice {d : Nat} (h : d < 10) (x : World) : (Instr.slice 9 (.string tenS) (some (.int .i64 (d : Int))) (some (.int .i64 ((d : Int) + 1))) none).run Try.prog x = .ok (.string ⟨[UInt8.ofNat (48 + d)].toArray⟩) x := by
  rw [← ten_piece h]
  have hs : tenS.size = 10 := rfl
  have m0 : (0 : Int) ≤ (d : Int) := by omega
  have m1 : ((d + 1 : Nat) : Int) ≤ (tenS.size : Int) := by omega
  have m2 : (d : Int) ≤ ((d + 1 : Nat) : Int) := by omega
  rw [show (d : Int) + 1 = ((d + 1 : Nat) : Int) from by omega]
  generalize d + 1 = e at *
  generalize tenS = s at *
  simp [go_sem, m0, m1, m2]
theorem cat_lists (x y : List UInt8) : (ByteArray.mk x.toArray) ++ (ByteArray.mk y.toArray) = ⟨(x ++ y).toArray⟩ := by
  apply ByteArray.ext
  simp

set_option maxHeartbeats 1000000 in
theorem dec_any (n : Nat) : ∀ (w : World), n < 10 ^ 12 →
    Calls Try.prog 9 #[.int .i64 (n : Int)] w fun e w' => e = .returned (.string ⟨(decL n).toArray⟩) ∧ Below w.heap.size w w' := by
  induction n using Nat.strongRecOn with
  | _ n ih =>
    intro w hn
    by_cases h10 : n < 10
    · have hsl := ten_slice h10
      unfold tenS at hsl
      have i10 : (n : Int) < 10 := by omega
      have e10 := decL_lt h10
      generalize UInt8.ofNat (48 + n) = bb at hsl e10
      go_enter Try.func9, Try.ntmps9
      go_wp2
      go_ret
      exact ⟨by rw [e10]; rfl, Below.refl _ _⟩
    · have i10 : ¬ (n : Int) < 10 := by omega
      have e10 := decL_ge h10
      have hsl := ten_slice (d := n % 10) (by omega)
      unfold tenS at hsl
      have hq : ((n / 10 : Nat) : Int) = IntKind.i64.wrap ((n : Int) / 10) := by rw [IntKind.wrap_i64]; omega
      have hr : ((n % 10 : Nat) : Int) = (n : Int).tmod 10 := by rw [Int.tmod_eq_emod_of_nonneg (by omega)]; omega
      have hwr : IntKind.i64.wrap ((n : Int).tmod 10 + 1) = (n : Int).tmod 10 + 1 := by rw [IntKind.wrap_i64, ← hr]; omega
      rw [hr, ← hwr] at hsl
      generalize UInt8.ofNat (48 + n % 10) = bb at hsl e10
      have hc : ∀ x : World, Calls Try.prog 9 #[.int .i64 (IntKind.i64.wrap ((n : Int) / 10))] x fun e w' => e = .returned (.string ⟨(decL (n / 10)).toArray⟩) ∧ Below x.heap.size x w' := fun x => by
        rw [← hq]
        exact ih (n / 10) (by omega) x (by omega)
      have hlen : ¬ 9223372036854775807 < (decL (n / 10)).length + 1 := by have := decL_len 12 (n / 10) (by omega) (by omega); omega
      change Hid _ at hc
      clear ih hq hr hwr
      go_enter Try.func9, Try.ntmps9
      go_wp2_with fail
      refine region_last (fun _ => True) (by kernel_rfl) (by kernel_rfl) (by kernel_rfl) trivial (fun hHeld => ?_)
      simp only [List.dropLast, List.length_cons, List.length_nil, Nat.reduceAdd]
      refine takeL (i := 0) (v := ?_) rfl (by kernel_rfl) (by kernel_rfl) (by kernel_rfl) (fun _ _ _ h => h) rfl (by assumption) ?_ ?_
      rotate_left
      · (intro wS hSw; (try dsimp only at hSw); go_simp; try with_reducible rfl)
      (try simp only [Act.put, List.setIfInBounds_toArray, List.set_cons_zero, List.set_cons_succ])
      refine takeL (i := 1) (v := ?_) rfl (by kernel_rfl) (by kernel_rfl) (by kernel_rfl) (fun _ _ _ h => h) rfl (by assumption) ?_ ?_
      rotate_left
      · (intro wS hSw; (try dsimp only at hSw); go_simp; try with_reducible rfl)
      (try simp only [Act.put, List.setIfInBounds_toArray, List.set_cons_zero, List.set_cons_succ])
      refine takeL (i := 3) (v := ?_) rfl (by kernel_rfl) (by kernel_rfl) (by kernel_rfl) (fun _ _ _ h => h) rfl (by assumption) ?_ ?_
      rotate_left
      · (intro wS hSw; (try dsimp only at hSw); go_simp; try with_reducible rfl)
      (try simp only [Act.put, List.setIfInBounds_toArray, List.set_cons_zero, List.set_cons_succ])
      refine takeL (i := 4) (v := ?_) rfl (by kernel_rfl) (by kernel_rfl) (by kernel_rfl) (fun _ _ _ h => h) rfl (by assumption) ?_ ?_
      rotate_left
      · (intro wS hSw; (try dsimp only at hSw); go_simp; try with_reducible rfl)
      (try simp only [Act.put, List.setIfInBounds_toArray, List.set_cons_zero, List.set_cons_succ])
      refine takeL (i := 5) (v := ?_) rfl (by kernel_rfl) (by kernel_rfl) (by kernel_rfl) (fun _ _ _ h => h) rfl (by assumption) ?_ ?_
      rotate_left
      · (intro wS hSw; (try dsimp only at hSw); go_simp; try with_reducible rfl)
      (try simp only [Act.put, List.setIfInBounds_toArray, List.set_cons_zero, List.set_cons_succ])
      refine takeL (i := 6) (v := ?_) rfl (by kernel_rfl) (by kernel_rfl) (by kernel_rfl) (fun _ _ _ h => h) rfl (by assumption) ?_ ?_
      rotate_left
      · (intro wS hSw; (try dsimp only at hSw); go_simp; try with_reducible rfl)
      (try simp only [Act.put, List.setIfInBounds_toArray, List.set_cons_zero, List.set_cons_succ])
      refine takeL (i := 7) (v := ?_) rfl (by kernel_rfl) (by kernel_rfl) (by kernel_rfl) (fun _ _ _ h => h) rfl (by assumption) ?_ ?_
      rotate_left
      · (intro wS hSw; (try dsimp only at hSw); go_simp; try with_reducible rfl)
      (try simp only [Act.put, List.setIfInBounds_toArray, List.set_cons_zero, List.set_cons_succ])
      refine takeL (i := 8) (v := ?_) rfl (by kernel_rfl) (by kernel_rfl) (by kernel_rfl) (fun _ _ _ h => h) rfl (by assumption) ?_ ?_
      rotate_left
      · (intro wS hSw; (try dsimp only at hSw); go_simp; try with_reducible rfl)
      (try simp only [Act.put, List.setIfInBounds_toArray, List.set_cons_zero, List.set_cons_succ])
      refine stepL (i := 2) rfl (by kernel_rfl) (fun K hK => ?_)
      rw [if_pos (by rfl)]
      go_simp
      refine (hc.out _).mono ?_
      rintro er w2 ⟨rfl, hb2⟩
      have b2 : Below w.heap.size w w2 := (Below.refl _ _).drew.trans hb2
      refine hK.out _ _ trivial (fun hHeld2 => ?_)
      clear hK K hHeld
      (try simp only [Act.put, List.setIfInBounds_toArray, List.set_cons_zero, List.set_cons_succ])
      refine takeL (i := 9) (v := ?_) rfl (by kernel_rfl) (by kernel_rfl) (by kernel_rfl) (fun _ _ _ h => h) rfl (by assumption) ?_ ?_
      rotate_left
      · (intro wS hSw; (try dsimp only at hSw); go_simp; try with_reducible rfl)
      (try simp only [Act.put, List.setIfInBounds_toArray, List.set_cons_zero, List.set_cons_succ])
      refine wpAnyH_done (by kernel_rfl) ?_ _
      refine lastL (n := 10) rfl rfl ?_
      go_simp
      clear hHeld2
      go_wp2
      go_ret
      exact ⟨by rw [e10, ← cat_lists]; rfl, b2⟩
end Go.Proofs.Ytfliahkcfnpjcab
