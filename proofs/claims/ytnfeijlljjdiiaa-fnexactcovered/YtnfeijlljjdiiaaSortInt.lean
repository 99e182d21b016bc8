/- slices.Values, slices.Sorted of numbers: a new list of the same numbers, sorted; slices.BinarySearch in it. -/
import Derived.Test.YtnfeijlljjdiiaaAppInt
import Derived.Test.YtnfeijlljjdiiaaIntsLay
import Derived.Sort.OwnSortedInts
import Derived.RangeFuncBound
namespace Go.Proofs.Ytnfeijlljjdiiaa
open Go.ChangeShapes Go.WideShapes Go.ChangeAt Go.RowKit Go.Maps Go.Sort Go.Shelf
set_option linter.unusedVariables false
set_option maxRecDepth 100000
attribute [local go_sem ↓] Go.wp_at_zero Go.wp_at_succ

theorem values_any (a : Option Addr) (n c : Nat) (w : World) :
    Calls Try.prog 17 #[.slice a n c] w fun e w' => e = .returned (.func (.func 23) #[] #[.pointer (some ⟨w.heap.size, 0, none⟩)]) ∧ w' = w.alloc (.cells #[.slice a n c] 22) := by
  go_enter Try.func17, Try.ntmps17
  go_wp2
  go_ret
  exact ⟨rfl, rfl⟩

theorem valuesIt_in (n : Nat) (hn : 1 ≤ n) (a : Option Addr) (cap : Nat) (L : List Int) (w : World) {lo hi : Nat} (h : IntsAt lo hi w (.slice a L.length cap) L) :
    SeqGivesB Fence.wide n Try.prog 23 #[.pointer (some ⟨w.heap.size, 0, none⟩)] encI (fun xs => xs = L) L.length (w.alloc (.cells #[.slice a L.length cap] 22)) := fun l J W hW hJ hB hY h0 => by
  have bA := (Below.refl w.heap.size w).alloc (Nat.le_refl _) (Obj.cells #[.slice a L.length cap] 22)
  have hbox : W.cell? ⟨w.heap.size, 0, none⟩ = some (.slice a L.length cap) := cell_stays hW (by simp [go_sem])
  obtain ⟨a', cap', e', hm, hc⟩ := h
  injection e' with e1 e2 e3
  subst e1 e3
  unfold maxLen at hm
  refine callsIn_of_wp Try.func23 rfl trivial ?_ rfl
  simp only [Try.ntmps23, List.size_toArray, List.length_cons, List.length_nil, Nat.reduceAdd, Nat.reduceSub, Array.replicate_succ, Array.replicate_zero, List.push_toArray, List.append_toArray, List.nil_append, List.cons_append]
  gi_wp2
  gi_loopw [7] (fun i wr => ∃ k : Nat, k ≤ L.length ∧ i = .int .i64 k ∧ J (L.take k) wr) (fun i _ => L.length - (intOf i).toNat)
  case atStart => exact ⟨0, Nat.zero_le _, rfl, h0⟩
  case round =>
    obtain ⟨k, hk, rfl, hJk⟩ := hrel
    by_cases hlt : k < L.length
    · obtain ⟨b, off, rfl, _, _, hcc⟩ := hc (by omega)
      have c0 := cell_stays (hB _ _ hJk) (cell_stays bA (hcc k hlt))
      have j0 : (0 : Int) ≤ (k : Int) := by omega
      have j1 : (k : Int) < (L.length : Int) := by omega
      obtain ⟨fn, tmps, assign, body, hy, hR⟩ := hY (L.take k) (iAt L k) _ hJk (by simp; omega)
      unfold encI at hy
      clear hcc hc hY hbox
      gi_wp2
      refine hR.mono ?_
      rintro e W3 ⟨rfl, hJ4, hk3⟩
      gi_wp2
      go_roundw
      case rel => exact ⟨k + 1, by omega, by go_num, by rw [List.take_add_one, List.getElem?_eq_getElem hlt]; simpa [iAt, List.getD, List.getElem?_eq_getElem hlt] using hJ4⟩
      case measure => simp [intOf]; omega
    · gi_wp2
      go_end0
      exact ⟨⟨_, rfl⟩, L, rfl, by rw [List.take_of_length_le (by omega)] at hJk; exact hJk⟩

/-- The same numbers, sorted. -/
def srtI (l : List Int) : List Int := l.mergeSort fun x y => decide (x ≤ y)
theorem srtI_len (l : List Int) : (srtI l).length = l.length := by simp [srtI]
theorem srtI_mem (l : List Int) (x : Int) : x ∈ srtI l ↔ x ∈ l := by simp [srtI, List.mem_mergeSort]
theorem srtI_up (l : List Int) : (srtI l).Pairwise (· ≤ ·) := by
  have h := List.pairwise_mergeSort (le := fun x y : Int => decide (x ≤ y)) (fun a b c h1 h2 => by simp at *; omega) (fun a b => by simp; omega) l
  exact h.imp (fun h => by simpa using h)

set_option maxRecDepth 100000 in
set_option maxHeartbeats 2000000 in
/-- slices.Sorted(seq), at numbers, against an iterator that reads what lay before. -/
theorem sortedI_in (n : Nat) (hn : 4 ≤ n) (g : Nat) (lb : Array Value) (eg : ∀ args w, (callFunc g args).run Try.prog w = .ok (.enter g args) w)
    (S : List Int → Prop) (N : Nat) (hN : N ≤ 1048576) (w : World) (hseq : SeqGivesB Fence.wide (n - 1 - 1 - 1) Try.prog g lb encI S N w) (hlen : ∀ ss, S ss → ss.length ≤ N) :
    CallsIn Fence.wide n Try.prog 16 #[.func (.func g) #[] lb] w fun e w' => ∃ (v : Value) (ss : List Int), e = .returned v ∧ S ss ∧
      w'.ownsRow w.heap.size 3 1 v ss.length (flatI (srtI ss)) ∧ (v = .slice none 0 0 ↔ ss = []) ∧ Below w.heap.size w w' := by
  have h1 : 1 ≤ n := by omega
  refine callsIn_of_wp Try.func16 rfl trivial ?_ rfl
  simp only [Try.ntmps16, List.size_toArray, List.length_cons, List.length_nil, Nat.reduceAdd, Nat.reduceSub, Array.replicate_succ, Array.replicate_zero, List.push_toArray, List.append_toArray, List.nil_append, List.cons_append]
  gi_wp2_with ((first | refine ⟨trivial, ?_⟩ | refine ⟨fun _ => by omega, ?_⟩ | skip); gi_at_call 21; refine (collectI_in (n - 1) (by omega) g lb eg _ N hN _ hseq).mono ?_; rintro e W ⟨v, ss, rfl, hS, hrow, hnil, hb⟩)
  have hl := hlen ss hS
  rcases hrow.2 with ⟨rfl, hz⟩ | ⟨gb, cap, cur, rfl, hbase, hgb, r1, r2, r3, r4⟩
  · have hss : ss = [] := List.eq_nil_of_length_eq_zero hz
    subst hss
    have cN := AnyM.slices_Sort_int_none sortI none 0 W
    change Calls Try.prog 22 _ _ _ at cN
    gi_wp2_with ((first | refine ⟨trivial, ?_⟩ | refine ⟨fun _ => by omega, ?_⟩ | skip); gi_at_call 22; refine (callsIn_wide.2 cN).mono ?_; rintro e w' ⟨rfl, rfl⟩)
    go_ret
    exact ⟨.slice none 0 0, [], rfl, hS, by simpa [srtI, flatI] using hrow, by simp, hb⟩
  · have hH : Holds (Value.int .i64) W gb 0 ss.toArray := holds_of_blockI hgb (by rw [Nat.mul_one] at r4; exact r4)
    have hgl : gb < W.heap.size := (Array.getElem?_eq_some_iff.1 hgb).1
    have cS := AnyM.slices_Sort_int sortI gb 0 cap ss W hH hgl (by omega)
    change Calls Try.prog 22 #[.slice (some ⟨gb, 0, none⟩) ss.length cap] _ _ at cS
    gi_wp2_with ((first | refine ⟨trivial, ?_⟩ | refine ⟨fun _ => by omega, ?_⟩ | skip); gi_at_call 22; refine (callsIn_wide.2 cS).mono ?_; rintro e w' ⟨rfl, nn, os, rfl⟩)
    go_ret
    exact ⟨_, ss, rfl, hS, ownsRow_sortedI (srtI_len ss) hbase hgb r1 r2 r3, hnil, hb.grown (grownBy_sortedI _) hb.size (fun j hj => by cases hj; exact hbase)⟩

theorem ints_ofRow {w : World} {base : Nat} {v : Value} {l : List Int} (h : w.ownsRow base 3 1 v l.length (flatI l)) (hn : l.length ≤ 1048576) : IntsAt base w.heap.size w v l := by
  rcases h.2 with ⟨rfl, hz⟩ | ⟨g, cap, cur, rfl, hbase, hg, r1, r2, r3, r4⟩
  · exact ⟨_, _, by rw [hz], by unfold maxLen; omega, fun hp => by omega⟩
  · refine ⟨_, _, rfl, by unfold maxLen; omega, fun hp => ⟨g, 0, rfl, hbase, (Array.getElem?_eq_some_iff.1 hg).1, fun i hi => ?_⟩⟩
    have h1 : (cur.toList.take (l.length * 1))[i]? = (flatI l)[i]? := by rw [r4]
    rw [List.getElem?_take_of_lt (by omega)] at h1
    have hi2 : i < cur.size := by omega
    have e : (flatI l)[i]? = some (.int .i64 (iAt l i)) := by simp [flatI, iAt, encI, hi]
    rw [e] at h1
    simp only [World.cell?, hg, Nat.zero_add]
    simpa using h1

set_option maxHeartbeats 1000000 in
/-- slices.Sorted(slices.Values(l)), behind slices.Values. -/
theorem sortedVals_any (a : Option Addr) (cap : Nat) (L : List Int) (w : World) {lo hi : Nat} (h : IntsAt lo hi w (.slice a L.length cap) L) (hn : L.length ≤ 1048576) :
    Calls Try.prog 16 #[.func (.func 23) #[] #[.pointer (some ⟨w.heap.size, 0, none⟩)]] (w.alloc (.cells #[.slice a L.length cap] 22)) fun e w' => ∃ qa qc, e = .returned (.slice qa L.length qc) ∧ IntsAt w.heap.size w'.heap.size w' (.slice qa L.length qc) (srtI L) ∧ Below w.heap.size w w' := by
  have bA := (Below.refl w.heap.size w).alloc (Nat.le_refl _) (Obj.cells #[.slice a L.length cap] 22)
  refine (callsIn_wide.1 (sortedI_in 4 (by omega) 23 _ (enters_of Try.func23 (by kernel_rfl) rfl) (fun xs => xs = L) L.length hn _ (valuesIt_in 1 (by omega) a cap L w h) (fun ss e => by rw [e]; exact Nat.le_refl _))).mono ?_
  rintro e w' ⟨v, ss, rfl, rfl, hrow, hnil, hb⟩
  obtain ⟨qa, qc, rfl⟩ : ∃ a c, v = .slice a ss.length c := by
    rcases hrow.2 with ⟨rfl, h0⟩ | ⟨g, c, cur, rfl, _⟩
    · exact ⟨_, _, by rw [h0]⟩
    · exact ⟨_, _, rfl⟩
  have hrow' : w'.ownsRow (w.alloc (Obj.cells #[.slice a ss.length cap] 22)).heap.size 3 1 (.slice qa ss.length qc) (srtI ss).length (flatI (srtI ss)) := by rw [srtI_len]; exact hrow
  have hI := ints_ofRow hrow' (by rw [srtI_len]; exact hn)
  exact ⟨qa, qc, rfl, hI.wide (by simp) (Nat.le_refl _), bA.trans (hb.mono bA.size)⟩

/-- slices.BinarySearch in a sorted list. -/
theorem searchI_any (a : Option Addr) (cap : Nat) (L : List Int) (x : Int) (w : World) {lo hi : Nat} (h : IntsAt lo hi w (.slice a L.length cap) L) (hn : L.length ≤ 1048576) (hs : L.Pairwise (· ≤ ·)) :
    Calls Try.prog 20 #[.slice a L.length cap, .int .i64 x] w fun e w' => (∃ k : Int, e = .returned (.tuple #[.int .i64 k, .bool (decide (x ∈ L))])) ∧ Below w.heap.size w w' := by
  obtain ⟨a', cap', e', hm, hc⟩ := h
  injection e' with e1 e2 e3
  subst e1 e3
  clear e2
  by_cases hz : L.length = 0
  · obtain rfl : L = [] := List.eq_nil_of_length_eq_zero hz
    clear hc hs hz
    go_enter Try.func20, Try.ntmps20
    go_wp2
    go_loopw [7, 8] (fun s7 s8 wr => s7 = .int .i64 0 ∧ s8 = .int .i64 0 ∧ wr = w) (fun _ _ _ => 0)
    case atStart => exact ⟨rfl, rfl, rfl⟩
    case round =>
      obtain ⟨rfl, rfl, rfl⟩ := hrel
      go_wp2
      go_ret2
      exact ⟨⟨_, by simp; rfl⟩, Below.refl _ _⟩
  · obtain ⟨b, off, rfl, _, _, hcc⟩ := hc (by omega)
    have cS := AnyG.slices_BinarySearch_int searchI b off L.length cap L x w (Nat.le_refl _) (by omega) (fun j hj => hcc j hj) (by rw [List.take_length]; exact hs)
    change Calls Try.prog 20 _ _ _ at cS
    refine cS.mono ?_
    rintro e w' ⟨rfl, q, rfl⟩
    rw [List.take_length, show L.contains x = decide (x ∈ L) by rw [Bool.eq_iff_iff]; simp]
    exact ⟨⟨_, rfl⟩, ⟨rfl, rfl, rfl, Nat.le_refl _, fun _ _ => rfl⟩⟩
end Go.Proofs.Ytnfeijlljjdiiaa
