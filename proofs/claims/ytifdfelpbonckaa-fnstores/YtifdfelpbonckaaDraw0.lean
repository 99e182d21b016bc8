/- The draws: a cursor over bytes; a byte. -/
import Derived.Test.YtifdfelpbonckaaOwn0
import Derived.Deep.AppendLies
import Derived.Test.YtifdfelpbonckaaOk
namespace Go.Proofs.Ytifdfelpbonckaa
open Go.ChangeShapes Go.WideShapes Go.ChangeAt Go.RowKit Go.Sort
set_option linter.unusedVariables false
set_option maxRecDepth 100000
attribute [local go_sem ↓] Go.wp_at_zero Go.wp_at_succ

def curf (a : Option Addr) (n cap : Nat) (i h : Int) : Nat → Value
  | 0 => .slice a n cap
  | 1 => .int .i64 i
  | _ => .int .i64 h

/-- The bytes that a cursor goes over. -/
def Bytes (w : World) (a : Option Addr) (n cb : Nat) : Prop := 0 < n → ∃ b off, a = some ⟨b, off, none⟩ ∧ b < cb ∧ ∀ j, j < n → ∃ x : Int, 0 ≤ x ∧ x ≤ 255 ∧ w.cell? ⟨b, off + j, none⟩ = some (.int .u8 x)
/-- Block cb is a cursor. -/
def Cur (w : World) (cb : Nat) : Prop := ∃ a n cap, ∃ i h : Int, n ≤ maxLen ∧ 0 ≤ i ∧ i ≤ n ∧ RowOf w cb 84 3 (curf a n cap i h) ∧ Bytes w a n cb

theorem Bytes.kept {w w' : World} {a : Option Addr} {n cb : Nat} (h : Bytes w a n cb) (hg : w.grownBy w' (some cb)) : Bytes w' a n cb := fun hp => by
  obtain ⟨b, off, h1, h2, h3⟩ := h hp
  refine ⟨b, off, h1, h2, fun j hj => ?_⟩
  obtain ⟨x, x0, x1, x2⟩ := h3 j hj
  exact ⟨x, x0, x1, by rw [hg.cell_far _ (cell_lt x2) (by intro e; injection e with e; simp at e; omega)]; exact x2⟩
theorem Bytes.stays {w w' : World} {a : Option Addr} {n cb : Nat} (h : Bytes w a n cb) (hb : Below w.heap.size w w') : Bytes w' a n cb := fun hp => by
  obtain ⟨b, off, h1, h2, h3⟩ := h hp
  refine ⟨b, off, h1, h2, fun j hj => ?_⟩
  obtain ⟨x, x0, x1, x2⟩ := h3 j hj
  exact ⟨x, x0, x1, cell_stays hb x2⟩
theorem Cur.stays {w w' : World} {cb : Nat} (h : Cur w cb) (hb : Below w.heap.size w w') : Cur w' cb := by
  obtain ⟨a, n, cap, i, hh, h1, h2, h3, h4, h5⟩ := h
  exact ⟨a, n, cap, i, hh, h1, h2, h3, h4.of_block (hb.block _ h4.lt), h5.stays hb⟩
theorem Cur.lt {w : World} {cb : Nat} (h : Cur w cb) : cb < w.heap.size := by
  obtain ⟨a, n, cap, i, hh, h1, h2, h3, h4, h5⟩ := h
  exact h4.lt

theorem and_255 (x : Int) : 0 ≤ bits .and .i64 x 255 ∧ bits .and .i64 x 255 ≤ 255 := by
  have h : (BitVec.ofInt 64 x &&& BitVec.ofInt 64 255).toNat ≤ 255 := by
    rw [BitVec.toNat_and]
    exact Nat.and_le_right
  have e : bits .and .i64 x 255 = IntKind.i64.wrap ((BitVec.ofInt 64 x &&& BitVec.ofInt 64 255).toNat : Int) := rfl
  rw [e]
  generalize (BitVec.ofInt 64 x &&& BitVec.ofInt 64 255).toNat = n at h
  have : IntKind.i64.wrap (n : Int) = n := by
    simp [IntKind.wrap, IntKind.bits, IntKind.signed]
    omega
  rw [this]
  omega

theorem curf_set (w : World) (cb : Nat) (a : Option Addr) (n cap : Nat) (i h h' : Int) (hr : RowOf w cb 84 3 (curf a n cap i h)) : RowOf (w.setCell ⟨cb, 2, none⟩ (.int .i64 h')) cb 84 3 (curf a n cap i h') := by
  refine (hr.set 2 (.int .i64 h')).congr fun j hj => ?_
  match j, hj with
  | 0, _ => rfl
  | 1, _ => rfl
  | 2, _ => rfl
theorem curf_set1 (w : World) (cb : Nat) (a : Option Addr) (n cap : Nat) (i i' h : Int) (hr : RowOf w cb 84 3 (curf a n cap i h)) : RowOf (w.setCell ⟨cb, 1, none⟩ (.int .i64 i')) cb 84 3 (curf a n cap i' h) := by
  refine (hr.set 1 (.int .i64 i')).congr fun j hj => ?_
  match j, hj with
  | 0, _ => rfl
  | 1, _ => rfl
  | 2, _ => rfl
theorem gb_set (w : World) (cb o : Nat) (v : Value) : w.grownBy (w.setCell ⟨cb, o, none⟩ v) (some cb) :=
  ⟨rfl, rfl, rfl, by simp [World.setCell], fun j _ hj => Below.heap_setCell _ _ _ _ (fun e => hj (by rw [e]))⟩
theorem gb_tr {a b c : World} {row : Option Nat} (h : a.grownBy b row) (k : b.grownBy c row) : a.grownBy c row :=
  ⟨k.os.trans h.os, k.tape.trans h.tape, k.output.trans h.output, Nat.le_trans h.size k.size, fun j hj hr => (k.block j (Nat.lt_of_lt_of_le hj h.size) hr).trans (h.block j hj hr)⟩
theorem gb_be {a b : World} (row : Option Nat) (h : Below a.heap.size a b) : a.grownBy b row := ⟨h.os, h.tape, h.output, h.size, fun j hj _ => h.block j hj⟩

set_option maxHeartbeats 1000000 in
theorem l1Byte_any (cb : Nat) (w : World) (hc : Cur w cb) :
    Calls Try.prog 54 #[.pointer (some ⟨cb, 0, none⟩)] w fun e w' => (∃ x : Int, e = .returned (.int .i64 x) ∧ 0 ≤ x ∧ x ≤ 255) ∧ Cur w' cb ∧ w.grownBy w' (some cb) := by
  obtain ⟨a, n, cap, i, hh, h1, h2', h3, h4, h5⟩ := hc
  have c0 : w.cell? ⟨cb, 0, none⟩ = some (.slice a n cap) := h4.cell (j := 0) (by omega)
  have c1 : w.cell? ⟨cb, 1, none⟩ = some (.int .i64 i) := h4.cell (j := 1) (by omega)
  have c2 : w.cell? ⟨cb, 2, none⟩ = some (.int .i64 hh) := h4.cell (j := 2) (by omega)
  have z0 := h4.frozen 0
  have z1 := h4.frozen 1
  have z2 := h4.frozen 2
  go_enter Try.func54, Try.ntmps54
  go_wp2_with fail
  generalize wrap64 (wrap64 (hh * 6364136223846793005) + 1442695040888963407) = h2
  have r1 := curf_set w cb a n cap i hh h2 h4
  have g1 := gb_set w cb 2 (.int .i64 h2)
  have y1 := h5.kept g1
  clear c0 c1 c2 z0 z1 z2 h4 h5
  generalize w.setCell ⟨cb, 2, none⟩ (.int .i64 h2) = w1 at *
  have c0 : w1.cell? ⟨cb, 0, none⟩ = some (.slice a n cap) := r1.cell (j := 0) (by omega)
  have c1 : w1.cell? ⟨cb, 1, none⟩ = some (.int .i64 i) := r1.cell (j := 1) (by omega)
  have c2 : w1.cell? ⟨cb, 2, none⟩ = some (.int .i64 h2) := r1.cell (j := 2) (by omega)
  have k2 := cell_regrown c2
  refine wp_region_quiet_below (by kernel_rfl) (by kernel_rfl) ?_
  repeat (go_big_quiet_step (fail))
  refine wpQuiet_nil ?_
  intro w2 hw2
  obtain ⟨⟨dq, osq⟩, hw3⟩ := hw2
  have hb2 : Below _ _ w2 := hw3 ▸ below_regrown _ dq osq
  clear hw3
  have hx := and_255 (bits BinOp.xor IntKind.i64 (h2 / 8589934592) (h2 / 35184372088832))
  generalize bits BinOp.and IntKind.i64 (bits BinOp.xor IntKind.i64 (h2 / 8589934592) (h2 / 35184372088832)) 255 = x at *
  have r2 := r1.of_block (hb2.block _ r1.lt)
  have g2 := gb_tr g1 (gb_be (some cb) hb2)
  have y2 := y1.stays hb2
  obtain ⟨k, rfl⟩ := Int.eq_ofNat_of_zero_le h2'
  have k0 := cell_regrown (cell_stays hb2 c0)
  have k1 := cell_regrown (cell_stays hb2 c1)
  clear k2 r1 g1 y1 c0 c1 c2 hb2
  by_cases hlt : (k : Int) < (n : Int)
  · have hkn : k < n := by omega
    go_wp2_with fail
    refine wp_region_quiet_below (by kernel_rfl) (by kernel_rfl) ?_
    repeat (go_big_quiet_step (fail))
    refine wpQuiet_nil ?_
    intro w3 hw3
    obtain ⟨⟨dq, osq⟩, hw4⟩ := hw3
    have hb3 : Below _ _ w3 := hw4 ▸ below_regrown _ dq osq
    clear hw4 k0 k1
    have r3 := r2.of_block (hb3.block _ r2.lt)
    have g3 := gb_tr g2 (gb_be (some cb) hb3)
    have y3 := y2.stays hb3
    obtain ⟨b, off, rfl, hbc, hby⟩ := id y3 (by omega)
    obtain ⟨xb, xb0, xb1, xb2⟩ := hby k hkn
    have c0 : w3.cell? ⟨cb, 0, none⟩ = some (.slice (some ⟨b, off, none⟩) n cap) := r3.cell (j := 0) (by omega)
    have c1 : w3.cell? ⟨cb, 1, none⟩ = some (.int .i64 (k : Int)) := r3.cell (j := 1) (by omega)
    have k0 := cell_regrown c0
    have k1 := cell_regrown c1
    have k3 := cell_regrown xb2
    have i0 : (0 : Int) ≤ (k : Int) := by omega
    clear hby c0 c1
    go_wp2_with fail
    refine wp_region_quiet_below (by kernel_rfl) (by kernel_rfl) ?_
    repeat (go_big_quiet_step (fail))
    refine wpQuiet_nil ?_
    intro w4 hw4
    obtain ⟨⟨dq, osq⟩, hw5⟩ := hw4
    have hb4 : Below _ _ w4 := hw5 ▸ below_regrown _ dq osq
    clear hw5 k0 k1 k3
    have r4 := r3.of_block (hb4.block _ r3.lt)
    have g4 := gb_tr g3 (gb_be (some cb) hb4)
    have y4 := y3.stays hb4
    have c1 : w4.cell? ⟨cb, 1, none⟩ = some (.int .i64 (k : Int)) := r4.cell (j := 1) (by omega)
    have z1 := r4.frozen 1
    have hy := and_255 (x + xb)
    unfold maxLen at h1
    generalize hv : bits BinOp.and IntKind.i64 (x + xb) 255 = y at *
    go_wp2
    go_ret
    exact ⟨⟨y, rfl, hy.1, hy.2⟩, ⟨_, n, cap, (k : Int) + 1, h2, by unfold maxLen; omega, by omega, by omega, curf_set1 _ _ _ _ _ _ _ _ r4, y4.kept (gb_set _ _ _ _)⟩, gb_tr g4 (gb_set _ _ _ _)⟩
  · have hlt' : decide ((k : Int) < (n : Int)) = false := by simpa using hlt
    go_wp2_with fail
    refine wp_region_quiet_below (by kernel_rfl) (by kernel_rfl) ?_
    repeat (go_big_quiet_step (fail))
    refine wpQuiet_nil ?_
    intro w3 hw3
    obtain ⟨⟨dq, osq⟩, hw4⟩ := hw3
    have hb3 : Below _ _ w3 := hw4 ▸ below_regrown _ dq osq
    clear hw4 k0 k1
    go_wp2
    go_ret
    exact ⟨⟨x, rfl, hx.1, hx.2⟩, ⟨a, n, cap, (k : Int), h2, h1, by omega, h3, r2.of_block (hb3.block _ r2.lt), y2.stays hb3⟩, gb_tr g2 (gb_be (some cb) hb3)⟩

theorem Cur.setOther {w : World} {cb : Nat} (h : Cur w cb) {B o : Nat} (hB : cb < B) (v : Value) : Cur (w.setCell ⟨B, o, none⟩ v) cb := by
  obtain ⟨a, n, cap, i, hh, h1, h2, h3, h4, h5⟩ := h
  refine ⟨a, n, cap, i, hh, h1, h2, h3, h4.setOther (show cb ≠ B by omega) v, fun hp => ?_⟩
  obtain ⟨b, off, e, g2, g3⟩ := h5 hp
  refine ⟨b, off, e, g2, fun j hj => ?_⟩
  obtain ⟨x, x0, x1, x2⟩ := g3 j hj
  exact ⟨x, x0, x1, cell_same (Below.heap_setCell _ _ _ _ (show b ≠ B by omega)) x2⟩
theorem gb_new {w x : World} {row : Option Nat} (h : w.grownBy x row) {B o : Nat} (hB : w.heap.size ≤ B) (v : Value) : w.grownBy (x.setCell ⟨B, o, none⟩ v) row :=
  ⟨h.os, h.tape, h.output, by simp only [size_setCell]; exact h.size, fun j hj hr => (Below.heap_setCell _ _ _ _ (show j ≠ B by omega)).trans (h.block j hj hr)⟩

set_option maxHeartbeats 1000000 in
theorem l1Below_any (cb : Nat) (n : Int) (w : World) (hc : Cur w cb) :
    Calls Try.prog 29 #[.pointer (some ⟨cb, 0, none⟩), .int .i64 n] w fun e w' => (∃ x : Int, e = .returned (.int .i64 x) ∧ 0 ≤ x ∧ (0 < n → x < n)) ∧ Cur w' cb ∧ w.grownBy w' (some cb) := by
  by_cases h0 : n ≤ 0
  · go_enter Try.func29, Try.ntmps29
    go_wp2
    go_ret
    exact ⟨⟨0, rfl, by omega, fun h => by omega⟩, hc, gb_be _ (Below.refl _ _)⟩
  · have hne : (n == 0) = false := by rw [beq_eq_false_iff_ne]; omega
    have hne' : ¬ n = 0 := by omega
    by_cases h1 : n ≤ 256
    · go_enter Try.func29, Try.ntmps29
      go_wp2_with (go_at_call 54; refine (l1Byte_any cb _ hc).mono ?_; rintro e w1 ⟨⟨x, rfl, x0, x1⟩, hc1, hg1⟩)
      go_ret
      exact ⟨⟨_, rfl, Int.emod_nonneg _ hne', fun h => Int.emod_lt_of_pos _ h⟩, hc1, hg1⟩
    · go_enter Try.func29, Try.ntmps29
      go_wp2_with fail
      refine (l1Byte_any cb _ hc).mono ?_
      rintro e w1 ⟨⟨x, rfl, x0, x1⟩, hc1, hg1⟩
      go_wp2_with fail
      refine (l1Byte_any cb _ hc1).mono ?_
      rintro e w2 ⟨⟨y, rfl, y0, y1⟩, hc2, hg2⟩
      go_wp2_with fail
      refine (l1Byte_any cb _ hc2).mono ?_
      rintro e w3 ⟨⟨z, rfl, z0, z1⟩, hc3, hg3⟩
      go_wp2_with fail
      refine (l1Byte_any cb _ hc3).mono ?_
      rintro e w4 ⟨⟨u, rfl, u0, u1⟩, hc4, hg4⟩
      go_wp2
      go_ret
      exact ⟨⟨_, rfl, Int.emod_nonneg _ hne', fun h => Int.emod_lt_of_pos _ h⟩, hc4, gb_tr (gb_tr (gb_tr hg1 hg2) hg3) hg4⟩

theorem l1PickInt_any (cb : Nat) (b off m cap : Nat) (f : Nat → Int) (w : World) (hc : Cur w cb) (hm : 0 < m) (hm2 : m ≤ 1000) (hf : ∀ j, j < m → w.cell? ⟨b, off + j, none⟩ = some (.int .i64 (f j))) (hbc : b ≠ cb) :
    Calls Try.prog 53 #[.pointer (some ⟨cb, 0, none⟩), .slice (some ⟨b, off, none⟩) m cap] w fun e w' => (∃ j, j < m ∧ e = .returned (.int .i64 (f j))) ∧ Cur w' cb ∧ w.grownBy w' (some cb) := by
  go_enter Try.func53, Try.ntmps53
  go_wp2_with fail
  refine (l1Below_any cb (m : Int) _ hc).mono ?_
  rintro e w1 ⟨⟨x, rfl, x0, x1⟩, hc1, hg1⟩
  obtain ⟨k, rfl⟩ := Int.eq_ofNat_of_zero_le x0
  have hk : k < m := by have := x1 (by omega); omega
  have hcell : w1.cell? ⟨b, off + k, none⟩ = some (.int .i64 (f k)) := by rw [hg1.cell_far _ (cell_lt (hf k hk)) (by intro e; injection e with e; exact hbc e)]; exact hf k hk
  have i1 : (k : Int) < (m : Int) := by omega
  go_wp2
  go_ret
  exact ⟨⟨k, hk, rfl⟩, hc1, hg1⟩

theorem l1key_any (cb : Nat) (w : World) (hc : Cur w cb) :
    Calls Try.prog 59 #[.pointer (some ⟨cb, 0, none⟩)] w fun e w' => (∃ t r : Int, e = .returned (.agg #[.int .i64 t, .int .i64 r]) ∧ 0 ≤ t ∧ t < 3 ∧ 0 ≤ r ∧ r < 3) ∧ Cur w' cb ∧ w.grownBy w' (some cb) := by
  have hA := (Below.refl w.heap.size w).alloc (Nat.le_refl _) (Obj.cells #[.int .i64 0, .int .i64 0] 36)
  have hcl := hc.lt
  go_enter Try.func59, Try.ntmps59
  go_wp2_with fail
  refine (l1Below_any cb 3 _ (hc.stays hA)).mono ?_
  rintro e w1 ⟨⟨x, rfl, x0, x1⟩, hc1, hg1⟩
  go_wp2_with fail
  refine (l1Below_any cb 3 _ hc1).mono ?_
  rintro e w2 ⟨⟨y, rfl, y0, y1⟩, hc2, hg2⟩
  have hg := gb_tr hg1 hg2
  have n1 : some w.heap.size ≠ some cb := by intro e; injection e with e; omega
  have d0 : w2.cell? ⟨w.heap.size, 0, none⟩ = some (.int .i64 0) := by rw [hg.cell_far _ (by simp) n1]; simp [go_sem]
  have d1 : w2.cell? ⟨w.heap.size, 1, none⟩ = some (.int .i64 0) := by rw [hg.cell_far _ (by simp) n1]; simp [go_sem]
  have f0 : w2.frozen? ⟨w.heap.size, 0, none⟩ = false := by rw [hg.frozen_far _ (by simp) n1]; simp [go_sem]
  have f1 : w2.frozen? ⟨w.heap.size, 1, none⟩ = false := by rw [hg.frozen_far _ (by simp) n1]; simp [go_sem]
  go_wp2
  refine bodyPost_ret (v := .agg #[.int .i64 x, .int .i64 y]) (by simp [results, Try.results59, go_sem, d0, d1]) rfl ⟨⟨x, y, rfl, x0, x1 (by omega), y0, y1 (by omega)⟩, ?_, ?_⟩
  · exact (hc2.setOther hcl _).setOther hcl _
  · exact gb_new (gb_new (gb_tr (World.grownBy_alloc _ _ _) hg) (Nat.le_refl _) _) (Nat.le_refl _) _

theorem key_box {w2 x : World} {B cb : Nat} {t r : Int} (hg : w2.grownBy x (some cb)) (hB : B < w2.heap.size) (hne : B ≠ cb) (h0 : w2.cell? ⟨B, 0, none⟩ = some (.int .i64 t)) (h1 : w2.cell? ⟨B, 1, none⟩ = some (.int .i64 r)) (f0 : w2.frozen? ⟨B, 0, none⟩ = false) (f1 : w2.frozen? ⟨B, 1, none⟩ = false) :
    x.cell? ⟨B, 0, none⟩ = some (.int .i64 t) ∧ x.cell? ⟨B, 1, none⟩ = some (.int .i64 r) ∧ x.frozen? ⟨B, 0, none⟩ = false ∧ x.frozen? ⟨B, 1, none⟩ = false := by
  have n1 : some B ≠ some cb := by intro e; injection e with e; exact hne e
  exact ⟨by rw [hg.cell_far _ hB n1]; exact h0, by rw [hg.cell_far _ hB n1]; exact h1, by rw [hg.frozen_far _ hB n1]; exact f0, by rw [hg.frozen_far _ hB n1]; exact f1⟩

def pick3 (x y z : Int) : Nat → Int
  | 0 => x
  | 1 => y
  | _ => z
theorem three_at (w : World) (x y z : Int) (T : TypeId) : ∀ j, j < 3 → (w.alloc (Obj.cells #[.int .i64 x, .int .i64 y, .int .i64 z] T)).cell? ⟨w.heap.size, 0 + j, none⟩ = some (.int .i64 (pick3 x y z j)) := fun j hj => by
  match j, hj with
  | 0, _ => simp [pick3]
  | 1, _ => simp [pick3]
  | 2, _ => simp [pick3]

theorem wf_in {x : Int} (h0 : -9223372036854775808 ≤ x) (h1 : x ≤ 9223372036854775807) : wf x := by
  show (Lit.int .i64 x).wf = true
  simp [Lit.wf, IntKind.min, IntKind.max, IntKind.bits, IntKind.signed]
  omega
theorem wf_pick3 {x y z : Int} (hx : wf x) (hy : wf y) (hz : wf z) : ∀ j, wf (pick3 x y z j)
  | 0 => hx
  | 1 => hy
  | _ + 2 => hz

set_option maxHeartbeats 1000000 in
theorem l1keyBent_any (cb : Nat) (w : World) (hc : Cur w cb) :
    Calls Try.prog 51 #[.pointer (some ⟨cb, 0, none⟩)] w fun e w' => (∃ t r : Int, e = .returned (.agg #[.int .i64 t, .int .i64 r]) ∧ wf t ∧ wf r) ∧ Cur w' cb ∧ w.grownBy w' (some cb) := by
  have hA := (Below.refl w.heap.size w).alloc (Nat.le_refl _) (Obj.cells #[.int .i64 0, .int .i64 0] 36)
  have hcl := hc.lt
  go_enter Try.func51, Try.ntmps51
  go_wp2_with fail
  refine (l1key_any cb _ (hc.stays hA)).mono ?_
  rintro e w1 ⟨⟨t, r, rfl, ht0, ht1, hr0, hr1⟩, hc1, hg1⟩
  have Wt : wf t := wf_in (by omega) (by omega)
  have Wr : wf r := wf_in (by omega) (by omega)
  have HWt : Hid (wf t) := Wt
  have HWr : Hid (wf r) := Wr
  clear Wt Wr
  have hz1 := hg1.size
  simp at hz1
  have hB := (Below.refl w1.heap.size w1).alloc (Nat.le_refl _) (Obj.cells #[.int .i64 t, .int .i64 r] 36)
  have hgB : (w.alloc (Obj.cells #[.int .i64 0, .int .i64 0] 36)).grownBy (w1.alloc (Obj.cells #[.int .i64 t, .int .i64 r] 36)) (some cb) := gb_tr hg1 (World.grownBy_alloc _ _ _)
  go_wp2_with fail
  refine (l1Below_any cb 14 _ (hc1.stays hB)).mono ?_
  rintro e w2 ⟨⟨x, rfl, x0, x1⟩, hc2, hg2⟩
  have hz2 := hg2.size
  simp at hz2
  have hg02 := gb_tr hgB hg2
  obtain ⟨a0, a1, a2, a3⟩ := key_box hg02 (B := w.heap.size) (t := 0) (r := 0) (by simp) (by omega) (by simp [go_sem]) (by simp [go_sem]) (by simp [go_sem]) (by simp [go_sem])
  obtain ⟨b0, b1, b2, b3⟩ := key_box hg2 (B := w1.heap.size) (t := t) (r := r) (by simp) (by omega) (by simp [go_sem]) (by simp [go_sem]) (by simp [go_sem]) (by simp [go_sem])
  have G2 := gb_tr (World.grownBy_alloc w (Obj.cells #[.int .i64 0, .int .i64 0] 36) (some cb)) hg02
  clear hg02 hgB hB hA hg1 hg2 hc1 hc
  by_cases e0 : x = 0
  · have e0' : (x == 0) = true := by simp [e0]
    clear e0
    have hL := (Below.refl w2.heap.size w2).alloc (Nat.le_refl _) (Obj.cells #[.int .i64 (-1), .int .i64 4, .int .i64 5] 3)
    go_wp2_with fail
    refine (l1PickInt_any cb _ 0 3 _ _ _ (hc2.stays hL) (by omega) (by omega) (three_at w2 (-1) 4 5 3) (by omega)).mono ?_
    rintro e w3 ⟨⟨j, hj, rfl⟩, hc3, hg3⟩
    have hz3 := hg3.size
    simp at hz3
    have hg23 := gb_tr (World.grownBy_alloc w2 (Obj.cells #[.int .i64 (-1), .int .i64 4, .int .i64 5] 3) (some cb)) hg3
    obtain ⟨p0, p1, p2, p3⟩ := key_box hg23 (by omega) (by omega) a0 a1 a2 a3
    obtain ⟨q0, q1, q2, q3⟩ := key_box hg23 (by omega) (by omega) b0 b1 b2 b3
    have G3 := gb_tr G2 hg23
    have HU : Hid (wf (pick3 (-1) 4 5 j)) := wf_pick3 (wf_in (by omega) (by omega)) (wf_in (by omega) (by omega)) (wf_in (by omega) (by omega)) j
    generalize pick3 (-1) 4 5 j = u at *
    clear hg3 hg23 hL a0 a1 a2 a3 b0 b1 b2 b3 hc2 G2
    have nw : ¬ w1.heap.size = w.heap.size := by omega
    go_wp2
    refine bodyPost_ret (v := .agg #[.int .i64 u, .int .i64 r]) ?_ rfl ⟨⟨u, r, rfl, HU.out, HWr.out⟩, ?_, ?_⟩
    · simp [results, Try.results51, go_sem, p0, p1]
    · exact ((hc3.setOther (by omega) _).setOther hcl _).setOther hcl _
    · exact gb_new (gb_new (gb_new G3 (by omega) _) (Nat.le_refl _) _) (Nat.le_refl _) _
  · have e0' : (x == 0) = false := by rw [beq_eq_false_iff_ne]; exact e0
    clear e0
    by_cases e1 : x = 1
    · have e1' : (x == 1) = true := by simp [e1]
      clear e1
      have hL := (Below.refl w2.heap.size w2).alloc (Nat.le_refl _) (Obj.cells #[.int .i64 (-1), .int .i64 4611686018427387904, .int .i64 (-9223372036854775808)] 3)
      go_wp2_with fail
      refine (l1PickInt_any cb _ 0 3 _ _ _ (hc2.stays hL) (by omega) (by omega) (three_at w2 (-1) 4611686018427387904 (-9223372036854775808) 3) (by omega)).mono ?_
      rintro e w3 ⟨⟨j, hj, rfl⟩, hc3, hg3⟩
      have hz3 := hg3.size
      simp at hz3
      have hg23 := gb_tr (World.grownBy_alloc w2 (Obj.cells #[.int .i64 (-1), .int .i64 4611686018427387904, .int .i64 (-9223372036854775808)] 3) (some cb)) hg3
      obtain ⟨p0, p1, p2, p3⟩ := key_box hg23 (by omega) (by omega) a0 a1 a2 a3
      obtain ⟨q0, q1, q2, q3⟩ := key_box hg23 (by omega) (by omega) b0 b1 b2 b3
      have G3 := gb_tr G2 hg23
      have HU : Hid (wf (pick3 (-1) 4611686018427387904 (-9223372036854775808) j)) := wf_pick3 (wf_in (by omega) (by omega)) (wf_in (by omega) (by omega)) (wf_in (by omega) (by omega)) j
      generalize pick3 (-1) 4611686018427387904 (-9223372036854775808) j = u at *
      clear hg3 hg23 hL a0 a1 a2 a3 b0 b1 b2 b3 hc2 G2
      have nw : ¬ w1.heap.size = w.heap.size := by omega
      go_wp2
      refine bodyPost_ret (v := .agg #[.int .i64 t, .int .i64 u]) ?_ rfl ⟨⟨t, u, rfl, HWt.out, HU.out⟩, ?_, ?_⟩
      · simp [results, Try.results51, go_sem, p0, p1]
      · exact ((hc3.setOther (by omega) _).setOther hcl _).setOther hcl _
      · exact gb_new (gb_new (gb_new G3 (by omega) _) (Nat.le_refl _) _) (Nat.le_refl _) _
    · have e1' : (x == 1) = false := by rw [beq_eq_false_iff_ne]; exact e1
      clear e1
      go_wp2
      refine bodyPost_ret (v := .agg #[.int .i64 t, .int .i64 r]) ?_ rfl ⟨⟨t, r, rfl, HWt.out, HWr.out⟩, ?_, ?_⟩
      · simp [results, Try.results51, go_sem, a0, a1]
      · exact (hc2.setOther hcl _).setOther hcl _
      · exact gb_new (gb_new G2 (Nat.le_refl _) _) (Nat.le_refl _) _

/-- The bytes of an argument. -/
def BytesIn (w : World) (a : Option Addr) (n : Nat) : Prop := n ≤ maxLen ∧ (0 < n → ∃ b off, a = some ⟨b, off, none⟩ ∧ b < w.heap.size ∧ ∀ j, j < n → ∃ x : Int, 0 ≤ x ∧ x ≤ 255 ∧ w.cell? ⟨b, off + j, none⟩ = some (.int .u8 x))
theorem BytesIn.stays {w w' : World} {a : Option Addr} {n : Nat} (h : BytesIn w a n) (hb : Below w.heap.size w w') : BytesIn w' a n := ⟨h.1, fun hp => by
  obtain ⟨b, off, h1, h2, h3⟩ := h.2 hp
  refine ⟨b, off, h1, Nat.lt_of_lt_of_le h2 hb.size, fun j hj => ?_⟩
  obtain ⟨x, x0, x1, x2⟩ := h3 j hj
  exact ⟨x, x0, x1, cell_stays hb x2⟩⟩

theorem l1New_any (a : Option Addr) (n cap : Nat) (w : World) (hc : BytesIn w a n) :
    Calls Try.prog 25 #[.slice a n cap] w fun e w' => e = .returned (.pointer (some ⟨w.heap.size, 0, none⟩)) ∧ Cur w' w.heap.size ∧ Below w.heap.size w w' := by
  obtain ⟨hm, hby⟩ := id hc
  unfold maxLen at hm
  go_enter Try.func25, Try.ntmps25
  go_wp2
  go_loop [3, 4] (fun h i => ∃ (k : Nat) (hh : Int), k ≤ n ∧ i = .int .i64 k ∧ h = .int .i64 hh) (fun _ i => n - (intOf i).toNat)
  case atStart => exact ⟨0, _, Nat.zero_le _, rfl, rfl⟩
  case round =>
    obtain ⟨k, hh, hk, rfl, rfl⟩ := hrel
    have hfin : ∀ h' : Int, Cur (w.alloc (Obj.cells #[.slice a n cap, .int .i64 0, .int .i64 h'] 84)) w.heap.size := fun h' => by
      have hA := (Below.refl w.heap.size w).alloc (Nat.le_refl _) (Obj.cells #[.slice a n cap, .int .i64 0, .int .i64 h'] 84)
      refine ⟨a, n, cap, 0, h', by unfold maxLen; omega, by omega, by omega, ⟨#[.slice a n cap, .int .i64 0, .int .i64 h'], Deep.blk_alloc_new _ _, by simp, fun j hj => ?_⟩, fun hp => ?_⟩
      · match j, hj with
        | 0, _ => rfl
        | 1, _ => rfl
        | 2, _ => rfl
      · obtain ⟨b, off, h1, h2, h3⟩ := hby hp
        refine ⟨b, off, h1, h2, fun j hj => ?_⟩
        obtain ⟨x, x0, x1, x2⟩ := h3 j hj
        exact ⟨x, x0, x1, cell_stays hA x2⟩
    have HF : Hid (∀ h' : Int, Cur (w.alloc (Obj.cells #[.slice a n cap, .int .i64 0, .int .i64 h'] 84)) w.heap.size) := hfin
    clear hfin
    by_cases hlt : k < n
    · by_cases h4 : k < 4000
      · have h4' : (k : Int) < 4000 := by omega
        obtain ⟨b, off, rfl, h2, h3⟩ := hby (by omega)
        obtain ⟨x, x0, x1, x2⟩ := h3 k hlt
        clear hby h3 HF
        go_wp2
        go_round
        case rel => exact ⟨k + 1, _, by omega, by go_num, rfl⟩
        case measure => simp [intOf]; omega
      · have h4' : decide ((k : Int) < 4000) = false := by rw [decide_eq_false_iff_not]; omega
        clear hby
        go_wp2
        go_ret
        exact ⟨rfl, HF.out _, (Below.refl _ _).alloc (Nat.le_refl _) _⟩
    · clear hby
      go_wp2
      go_ret
      exact ⟨rfl, HF.out _, (Below.refl _ _).alloc (Nat.le_refl _) _⟩

end Go.Proofs.Ytifdfelpbonckaa
