/- The library's slices.Repeat of one role. -/
import Derived.Test.YtjikmpdgednlaaaXTree3
import Derived.Test.YtjikmpdgednlaaaRegLast
import Derived.Laws.CopyRow
import Derived.Shelf.Bits.Mul64
namespace Go.Proofs.Ytjikmpdgednlaaa
open Go.ChangeShapes Go.WideShapes Go.ChangeAt Go.RowKit
set_option linter.unusedVariables false
set_option maxRecDepth 100000
attribute [local go_sem ↓] Go.wp_at_zero Go.wp_at_succ

set_option maxHeartbeats 2000000 in
theorem mul64_any (x y : Nat) (hx : x < 18446744073709551616) (hy : y < 18446744073709551616) (w : World) :
    Calls Try.prog 92 #[.int .u64 x, .int .u64 y] w fun e w' => e = .returned (.tuple #[.int .u64 ((x * y / 18446744073709551616 : Nat) : Int), .int .u64 ((x * y % 18446744073709551616 : Nat) : Int)]) ∧ w' = w := by
  obtain ⟨bd, bt, bw, hhi⟩ := Lib.mul64_hi x y hx hy
  have ba := Lib.half_mul_le (a := x / 4294967296) (b := y / 4294967296) (by omega) (by omega)
  have bb := Lib.half_mul_le (a := x / 4294967296) (b := y % 4294967296) (by omega) (by omega)
  have bc := Lib.half_mul_le (a := x % 4294967296) (b := y / 4294967296) (by omega) (by omega)
  have ba' : x / 4294967296 * (y / 4294967296) < 18446744073709551616 := by omega
  have bb' : x / 4294967296 * (y % 4294967296) < 18446744073709551616 := by omega
  have bc' : x % 4294967296 * (y / 4294967296) < 18446744073709551616 := by omega
  have bh1 : x / 4294967296 * (y / 4294967296) + (x / 4294967296 * (y % 4294967296) + x % 4294967296 * (y % 4294967296) / 4294967296) / 4294967296 < 18446744073709551616 := by omega
  have bh : x / 4294967296 * (y / 4294967296) + (x / 4294967296 * (y % 4294967296) + x % 4294967296 * (y % 4294967296) / 4294967296) / 4294967296 + ((x / 4294967296 * (y % 4294967296) + x % 4294967296 * (y % 4294967296) / 4294967296) % 4294967296 + x % 4294967296 * (y / 4294967296)) / 4294967296 < 18446744073709551616 := by omega
  go_enter Try.func92, Try.ntmps92
  go_wp2
  simp only [Mul64.maskN x hx, Mul64.maskN y hy, Mul64.divN, Mul64.mulN, Mul64.addN, Mul64.wrapN _ bd, Mul64.wrapN _ bb', Mul64.wrapN _ bt, Mul64.maskN _ bt, Mul64.wrapN _ bc', Mul64.wrapN _ bw, Mul64.wrapN _ ba', Mul64.wrapN _ bh1, Mul64.wrapN _ bh, Mul64.wrapM (x * y)]
  rw [hhi]
  go_ret2
  exact ⟨rfl, rfl⟩

theorem mul_any (y : Nat) (hy : y ≤ 1048576) (w : World) :
    Calls Try.prog 88 #[.int .u64 1, .int .u64 y] w fun e w' => e = .returned (.tuple #[.int .u64 0, .int .u64 y]) ∧ w' = w := by
  have c64 := mul64_any 1 y (by omega) (by omega) w
  rw [Nat.one_mul, Nat.div_eq_of_lt (by omega), Nat.mod_eq_of_lt (by omega)] at c64
  go_enter Try.func88, Try.ntmps88
  go_wp2_with (go_at_call 92; refine c64.mono ?_; rintro e w' ⟨rfl, hw⟩; rw [hw])
  go_ret2
  exact ⟨rfl, rfl⟩

theorem infoR : (Try.prog.info? 117).map (fun i => (i.zero, i.size, i.bytes)) = some (some (.int .i64 0), 1, 8) := by kernel_rfl
theorem mk_roles (n : Nat) (hn : n ≤ 1048576) (w : World) :
    (Instr.makeSlice 118 (.int .i64 (n : Int)) (.int .i64 (n : Int))).run Try.prog w = .ok (.slice (some ⟨w.heap.size, 0, none⟩) n n) (w.alloc (.cells (madeCells #[.int .i64 0] n) 117)) := by
  obtain ⟨i, hi, hz0, hz1, hz2⟩ := info_parts infoR
  have hr := run_make (P := Try.prog) w 118 117 i _ Try.underlying118 hi hz0 .i64 .i64 n n (by omega) (Int.le_refl _) (by rw [hz2]; omega) (by omega)
  simpa [hz1, Value.cells] using hr

/-- Block g is a row of c roles, of which the first m are x. -/
def Filled (w : World) (g c m : Nat) (x : Int) : Prop := ∃ cur : Array Value, w.heap[g]? = some (.cells cur 117 (0, 0)) ∧ cur.size = c ∧ ∀ j, j < m → cur[j]? = some (.int .i64 x)

theorem Filled.cell {w : World} {g c m : Nat} {x : Int} (h : Filled w g c m x) {j : Nat} (hj : j < m) : w.cell? ((⟨g, 0, none⟩ : Addr).add j) = some (.int .i64 x) := by
  obtain ⟨cur, h1, h2, h3⟩ := h
  have e : (⟨g, 0, none⟩ : Addr).add j = ⟨g, j, none⟩ := by by_cases h : j = 0 <;> simp [Addr.add, h]
  rw [e]
  simp [World.cell?, h1, h3 j hj]
theorem Filled.copy {w : World} {g c m : Nat} {x : Int} (h : Filled w g c m x) {k : Nat} (hk : k ≤ c - m) (a : Addr) (sLen sCap : Nat) (hs : Nat.min sLen (c - m) = k) (hm : m ≤ c)
    (hsrc : ∀ j, j < k → w.cell? (a.add j) = some (.int .i64 x)) (ty : TypeId) (dCap : Nat) :
    ∃ w', (Builtin.copy_ #[118, 118] ty #[.slice (some ⟨g, m, none⟩) (c - m) dCap, .slice (some a) sLen sCap]).run Try.prog w = .ok (goInt k) w' ∧ Filled w' g c (m + k) x ∧ Below g w w' := by
  obtain ⟨cur, h1, h2, h3⟩ := h
  obtain ⟨i, hi, hz0, hz1, hz2⟩ := info_parts infoR
  have hr := run_copy_row (P := Try.prog) w 118 118 ty 117 g m (c - m) dCap a sLen sCap cur 117 (List.replicate k (.int .i64 x)) Try.underlying118 (by rw [hi]; simp [hz1]) h1 (by simp [hs]) (fun j v hj => by
    have hjk : j < k := by
      have := (List.getElem?_eq_some_iff.1 hj).1
      simpa using this
    have : v = .int .i64 x := by simpa [List.getElem?_replicate, hjk] using hj.symm
    rw [this]
    exact hsrc j hjk) (by simp; omega) (fun v hv => by rw [(List.mem_replicate.1 hv).2]; rfl)
  rw [List.length_replicate] at hr
  refine ⟨_, hr, ⟨_, setRow_heap w g cur _ 117 (0, 0) h1, by simp; omega, fun j hj => ?_⟩, ⟨rfl, rfl, rfl, by simp [World.setRow], fun b hb => setRow_other _ _ b _ (by omega)⟩⟩
  rw [List.getElem?_toArray]
  by_cases e : j < m
  · have := h3 j e
    rw [List.append_assoc, List.getElem?_append_left (by simp; omega), List.getElem?_take, if_pos e, Array.getElem?_toList]
    exact this
  · rw [List.append_assoc, List.getElem?_append_right (by simp <;> omega), List.getElem?_append_left (by simp <;> omega), List.getElem?_replicate, if_pos (by simp <;> omega)]

set_option maxHeartbeats 2000000 in
/-- One role, c times. -/
theorem repeat_any (x : Int) (X cap c : Nat) (hc : c ≤ 1048576) (w : World) (hx : w.cell? ⟨X, 0, none⟩ = some (.int .i64 x)) :
    Calls Try.prog 79 #[.slice (some ⟨X, 0, none⟩) 1 cap, .int .i64 (c : Int)] w fun e w' => (∃ g, e = .returned (.slice (some ⟨g, 0, none⟩) c c) ∧ Filled w' g c c x) ∧ Below w.heap.size w w' := by
  have c0 : ¬ (c : Int) < 0 := by omega
  have cw : IntKind.u64.wrap (c : Int) = (c : Int) := by rw [IntKind.wrap_u64]; omega
  have cw2 : IntKind.i64.wrap (c : Int) = (c : Int) := by rw [IntKind.wrap_i64]; omega
  have c1 : ¬ (9223372036854775807 : Int) < (c : Int) := by omega
  have hmk := mk_roles c hc
  have hF0 : Filled (w.alloc (.cells (madeCells #[.int .i64 0] c) 117)) w.heap.size c 0 x := ⟨_, Deep.blk_alloc_new w _, by rw [size_madeCells], fun j hj => absurd hj (Nat.not_lt_zero _)⟩
  have bA : Below w.heap.size w (w.alloc (.cells (madeCells #[.int .i64 0] c) 117)) := (Below.refl _ _).alloc (Nat.le_refl _) _
  have hx' := cell_stays bA hx
  have hsrc : ∀ j, j < min 1 c → (w.alloc (.cells (madeCells #[.int .i64 0] c) 117)).cell? ((⟨X, 0, none⟩ : Addr).add j) = some (.int .i64 x) := fun j hj => by
    have e : j = 0 := by omega
    subst e
    exact hx'
  obtain ⟨w2, hcp, hF2, hB2⟩ := hF0.copy (k := min 1 c) (by omega) ⟨X, 0, none⟩ 1 cap (by show min 1 (c - 0) = _; rw [Nat.sub_zero]) (Nat.zero_le _) hsrc 3 c
  rw [Nat.sub_zero] at hcp
  rw [Nat.zero_add] at hF2
  go_enter Try.func79, Try.ntmps79
  go_wp2_with (first | rw [hcp] | (go_at_call 88; refine (mul_any c hc _).mono ?_; rintro e w' ⟨rfl, hw⟩; rw [hw]))
  have bW := bA.trans (hB2.mono (Nat.le_refl _))
  clear hcp hF0 hx' bA hmk hB2
  generalize hg : w.heap.size = g at *
  go_loopw [8] (fun t8 wr => ∃ m : Nat, t8 = .int .i64 (m : Int) ∧ m ≤ c ∧ (0 < m ∨ c = 0) ∧ Filled wr g c m x ∧ Below g w wr) (fun t8 _ => c - (intOf t8).toNat)
  case atStart => exact ⟨min 1 c, rfl, by omega, by omega, hF2, bW⟩
  case round =>
    clear hF2 bW
    rename World => wo
    obtain ⟨m, rfl, hm, hm0, hF, hb⟩ := hrel
    by_cases hlt : m < c
    · have m0 : (0 : Int) ≤ (m : Int) := by omega
      have m1 : (m : Int) ≤ (c : Int) := by omega
      have m2 : (m : Int) < (c : Int) := by omega
      have m3 : ¬ c = m := by omega
      obtain ⟨k, hk⟩ : ∃ k, min m (c - m) = k := ⟨_, rfl⟩
      have hkw : IntKind.i64.wrap ((m : Int) + (k : Int)) = (m : Int) + (k : Int) := by rw [IntKind.wrap_i64]; omega
      have hF' : Filled wo.drew g c m x := hF
      obtain ⟨w3, hcp, hF3, hB3⟩ := hF'.copy (k := k) (by omega) ⟨g, 0, none⟩ m c hk hm (fun j hj => hF'.cell (by omega)) 3 (c - m)
      go_wp2_with fail
      refine region_last (fun y => True) (by kernel_rfl) (by kernel_rfl) (by kernel_rfl) trivial (fun hHeld => ?_)
      simp only [List.dropLast, List.length_cons, List.length_nil, Nat.reduceAdd]
      refine takeL (i := 0) (v := ?_) rfl (by kernel_rfl) (by kernel_rfl) (by kernel_rfl) (fun _ _ _ h => h) rfl (by assumption) ?_ ?_
      rotate_left
      · (intro wS hSw; (try dsimp only at hSw); go_simp; try with_reducible rfl)
      (try simp only [Act.put, List.setIfInBounds_toArray, List.set_cons_zero, List.set_cons_succ])
      refine takeL (i := 1) (v := ?_) rfl (by kernel_rfl) (by kernel_rfl) (by kernel_rfl) (fun _ _ _ h => h) rfl (by assumption) ?_ ?_
      rotate_left
      · (intro wS hSw; (try dsimp only at hSw); go_simp; try with_reducible rfl)
      (try simp only [Act.put, List.setIfInBounds_toArray, List.set_cons_zero, List.set_cons_succ])
      refine takeL (i := 2) (v := ?_) rfl (by kernel_rfl) (by kernel_rfl) (by kernel_rfl) (fun _ _ _ h => h) rfl (by assumption) ?_ ?_
      rotate_left
      · (intro wS hSw; (try dsimp only at hSw); go_simp; try with_reducible rfl)
      (try simp only [Act.put, List.setIfInBounds_toArray, List.set_cons_zero, List.set_cons_succ])
      refine takeL (i := 3) (v := ?_) rfl (by kernel_rfl) (by kernel_rfl) (by kernel_rfl) (fun _ _ _ h => h) rfl (by assumption) ?_ ?_
      rotate_left
      · (intro wS hSw; (try dsimp only at hSw); go_simp; try with_reducible rfl)
      (try simp only [Act.put, List.setIfInBounds_toArray, List.set_cons_zero, List.set_cons_succ])
      refine takeL (i := 4) (v := ?_) rfl (by kernel_rfl) (by kernel_rfl) (by kernel_rfl) (fun _ _ _ h => h) rfl (by assumption) ?_ ?_
      rotate_left
      · (intro wS hSw; (try dsimp only at hSw); go_simp; try with_reducible rfl)
      (try simp only [Act.put, List.setIfInBounds_toArray, List.set_cons_zero, List.set_cons_succ])
      refine takeL (i := 5) (v := ?_) rfl (by kernel_rfl) (by kernel_rfl) (by kernel_rfl) (fun _ _ _ h => h) rfl (by assumption) ?_ ?_
      rotate_left
      · (intro wS hSw; (try dsimp only at hSw); go_simp; try with_reducible rfl)
      (try simp only [Act.put, List.setIfInBounds_toArray, List.set_cons_zero, List.set_cons_succ])
      refine takeL (i := 6) (v := ?_) rfl (by kernel_rfl) (by kernel_rfl) (by kernel_rfl) (fun _ _ _ h => h) rfl (by assumption) ?_ ?_
      rotate_left
      · (intro wS hSw; (try dsimp only at hSw); go_simp; try with_reducible rfl)
      (try simp only [Act.put, List.setIfInBounds_toArray, List.set_cons_zero, List.set_cons_succ])
      refine stepL (i := 7) rfl (by kernel_rfl) (fun K hK => ?_)
      rw [if_pos (by rfl)]
      go_simp
      refine hK.out _ _ trivial (fun hHeld2 => ?_)
      clear hK K hHeld
      (try simp only [Act.put, List.setIfInBounds_toArray, List.set_cons_zero, List.set_cons_succ])
      refine takeL (i := 8) (v := ?_) rfl (by kernel_rfl) (by kernel_rfl) (by kernel_rfl) (fun _ _ _ h => h) rfl (by assumption) ?_ ?_
      rotate_left
      · (intro wS hSw; (try dsimp only at hSw); go_simp; try with_reducible rfl)
      (try simp only [Act.put, List.setIfInBounds_toArray, List.set_cons_zero, List.set_cons_succ])
      refine wpAnyH_done (by kernel_rfl) ?_ _
      refine lastL (n := 9) rfl rfl ?_
      go_simp
      have hB4 : Below g w w3 := (hb.trans ((Below.refl wo.heap.size wo).drew.mono (by have := hb.size; omega))).trans (hB3.mono (by exact Nat.le_refl _))
      clear hF hF' hcp hB3 hb
      go_wp2
      go_roundw
      case rel => exact ⟨m + k, by rw [Int.natCast_add], by omega, by omega, hF3, hB4⟩
      case measure => simp only [intOf]; omega
    · have hlt' : ¬ (m : Int) < (c : Int) := by omega
      have e : m = c := by omega
      subst e
      go_wp2
      go_ret
      exact ⟨⟨g, rfl, hF⟩, hg ▸ hb⟩

end Go.Proofs.Ytjikmpdgednlaaa
