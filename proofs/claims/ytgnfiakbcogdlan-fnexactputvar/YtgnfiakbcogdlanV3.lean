/- slices.Backward over variables; impl.variablesOf. -/
import Derived.Test.YtgnfiakbcogdlanV2
import Derived.Shelf.SlIter.Collect
import Derived.Sort.BigQuietIn
namespace Go.Proofs.Ytgnfiakbcogdlan
open Go.ChangeShapes Go.WideShapes Go.ChangeAt Go.RowKit Go.Maps Go.Deep Go.Joins Go.Sort Go.Shelf
set_option linter.unusedVariables false
set_option maxRecDepth 100000
attribute [local go_sem ↓] Go.wp_at_zero Go.wp_at_succ

/-- What the iterator reads: the slice in its box, and the variables. -/
def BCells (Bs : Nat) (a : Option Addr) (cap : Nat) (l : List Va) (W : World) : Prop :=
  W.cell? ⟨Bs, 0, none⟩ = some (.slice a l.length cap) ∧ (0 < l.length → ∃ b off, a = some ⟨b, off, none⟩ ∧ ∀ i, i < l.length → W.cell? ⟨b, off + i * 2, none⟩ = some (.string (vaAt l i).1) ∧ W.cell? ⟨b, off + i * 2 + 1, none⟩ = some (.int .i64 (vaAt l i).2))

set_option maxHeartbeats 2000000 in
theorem backward_in (n : Nat) (hn1 : 1 ≤ n) (lp Bs : Nat) (a : Option Addr) (cap : Nat) (l : List Va) (hn : l.length ≤ 1048576) (J : Nat → World → Prop) (hC : ∀ k W, J k W → BCells Bs a cap l W)
    (hY : ∀ k W, J k W → k < l.length → YieldAt Fence.wide (n - 1) Try.prog lp #[.int .i64 ((l.length - 1 - k : Nat) : Int), .agg #[.string (vaAt l (l.length - 1 - k)).1, .int .i64 (vaAt l (l.length - 1 - k)).2]] W fun e W' => e = .returned (.bool true) ∧ J (k + 1) W')
    (W : World) (h0 : J 0 W) :
    CallsIn Fence.wide n Try.prog 101 #[.func (.yield lp) #[] #[], .pointer (some ⟨Bs, 0, none⟩)] W fun e W' => (∃ v, e = .returned v) ∧ J l.length W' := by
  obtain ⟨q0, q1⟩ := hC 0 W h0
  refine callsIn_of_wp Try.func101 rfl trivial ?_ rfl
  simp only [Try.ntmps101, List.size_toArray, List.length_cons, List.length_nil, Nat.reduceAdd, Nat.reduceSub, Array.replicate_succ, Array.replicate_zero, List.push_toArray, List.append_toArray, List.nil_append, List.cons_append]
  gi_wp2
  gi_loopw [3] (fun i wr => ∃ k : Nat, k ≤ l.length ∧ i = .int .i64 ((l.length : Int) - 1 - (k : Int)) ∧ J k wr) (fun i _ => (intOf i + 1).toNat)
  case atStart => exact ⟨0, Nat.zero_le _, by simp, h0⟩
  case round =>
    obtain ⟨k, hk, rfl, hJ⟩ := hrel
    by_cases hlt : k < l.length
    · obtain ⟨c0, c1⟩ := hC k _ hJ
      obtain ⟨b, off, rfl, hcc⟩ := c1 (by omega)
      have hYk := hY k _ hJ hlt
      obtain ⟨p, hp⟩ : ∃ p, l.length - 1 - k = p := ⟨_, rfl⟩
      rw [hp] at hYk
      obtain ⟨fn, tmps, assign, body, hy, hR⟩ := hYk
      have hpl : p < l.length := by omega
      obtain ⟨d0, d1⟩ := hcc p hpl
      have e1 : (l.length : Int) - 1 - (k : Int) = (p : Int) := by omega
      have hpk : p + k + 1 = l.length := by omega
      rw [e1]
      clear hcc c1 q0 q1 hp e1
      have i0 : (0 : Int) ≤ (p : Int) := by omega
      have i1 : (p : Int) < (l.length : Int) := by omega
      gi_wp2
      refine hR.mono ?_
      rintro e W3 ⟨rfl, hJ3⟩
      gi_wp2
      go_roundw
      case rel => exact ⟨k + 1, by omega, by first | (simp; done) | (simp; omega), hJ3⟩
      case measure => (try simp [intOf]); try omega
    · have hke : k = l.length := by omega
      subst hke
      gi_wp2
      go_end0
      exact ⟨⟨_, rfl⟩, hJ⟩

theorem backward_call (n : Nat) (v : Value) (w : World) (hv : ∃ a m c, v = .slice a m c) :
    CallsIn Fence.wide n Try.prog 76 #[v] w fun e w' => e = .returned (.func (.func 101) #[] #[.pointer (some ⟨w.heap.size, 0, none⟩)]) ∧ w' = w.alloc (.cells #[v] 38) := by
  obtain ⟨a, m, c, rfl⟩ := hv
  refine callsIn_of_wp Try.func76 rfl trivial ?_ rfl
  simp only [Try.ntmps76, List.size_toArray, List.length_cons, List.length_nil, Nat.reduceAdd, Nat.reduceSub, Array.replicate_succ, Array.replicate_zero, List.push_toArray, List.append_toArray, List.nil_append, List.cons_append]
  gi_wp2
  go_ret
  exact ⟨rfl, rfl⟩
end Go.Proofs.Ytgnfiakbcogdlan
