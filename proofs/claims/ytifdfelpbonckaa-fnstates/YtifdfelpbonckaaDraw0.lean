/- The draws: a cursor over bytes; a byte. -/
import Derived.Test.YtifdfelpbonckaaOwn0
import Derived.Deep.AppendLies
import Derived.Test.YtifdfelpbonckaaOk
namespace Go.Proofs.Ytifdfelpbonckaa
open Go.ChangeShapes Go.WideShapes Go.ChangeAt Go.RowKit Go.Sort
set_option linter.unusedVariables false
set_option maxRecDepth 100000
attribute [local go_sem ↓] Go.wp_at_zero Go.wp_at_succ

def curf (a : Option Addr) (n cap : Nat) (i h : Int) : Nat → Value
  | 0 => .slice a n cap
  | 1 => .int .i64 i
  | _ => .int .i64 h

/-- The bytes that a cursor goes over. -/
def Bytes (w : World) (a : Option Addr) (n cb : Nat) : Prop := 0 < n → ∃ b off, a = some ⟨b, off, none⟩ ∧ b < cb ∧ ∀ j, j < n → ∃ x : Int, 0 ≤ x ∧ x ≤ 255 ∧ w.cell? ⟨b, off + j, none⟩ = some (.int .u8 x)
/-- Block cb is a cursor. -/
def Cur (w : World) (cb : Nat) : Prop := ∃ a n cap, ∃ i h : Int, n ≤ maxLen ∧ 0 ≤ i ∧ i ≤ n ∧ RowOf w cb 84 3 (curf a n cap i h) ∧ Bytes w a n cb

theorem Bytes.kept {w w' : World} {a : Option Addr} {n cb : Nat} (h : Bytes w a n cb) (hg : w.grownBy w' (some cb)) : Bytes w' a n cb := fun hp => by
  obtain ⟨b, off, h1, h2, h3⟩ := h hp
  refine ⟨b, off, h1, h2, fun j hj => ?_⟩
  obtain ⟨x, x0, x1, x2⟩ := h3 j hj
  exact ⟨x, x0, x1, by rw [hg.cell_far _ (cell_lt x2) (by intro e; injection e with e; simp at e; omega)]; exact x2⟩
theorem Bytes.stays {w w' : World} {a : Option Addr} {n cb : Nat} (h : Bytes w a n cb) (hb : Below w.heap.size w w') : Bytes w' a n cb := fun hp => by
  obtain ⟨b, off, h1, h2, h3⟩ := h hp
  refine ⟨b, off, h1, h2, fun j hj => ?_⟩
  obtain ⟨x, x0, x1, x2⟩ := h3 j hj
  exact ⟨x, x0, x1, cell_stays hb x2⟩
theorem Cur.stays {w w' : World} {cb : Nat} (h : Cur w cb) (hb : Below w.heap.size w w') : Cur w' cb := by
  obtain ⟨a, n, cap, i, hh, h1, h2, h3, h4, h5⟩ := h
  exact ⟨a, n, cap, i, hh, h1, h2, h3, h4.of_block (hb.block _ h4.lt), h5.stays hb⟩
theorem Cur.lt {w : World} {cb : Nat} (h : Cur w cb) : cb < w.heap.size := by
  obtain ⟨a, n, cap, i, hh, h1, h2, h3, h4, h5⟩ := h
  exact h4.lt

theorem and_255 (x : Int) : 0 ≤ bits .and .i64 x 255 ∧ bits .and .i64 x 255 ≤ 255 := by
  have h : (BitVec.ofInt 64 x &&& BitVec.ofInt 64 255).toNat ≤ 255 := by
    rw [BitVec.toNat_and]
    exact Nat.and_le_right
  have e : bits .and .i64 x 255 = IntKind.i64.wrap ((BitVec.ofInt 64 x &&& BitVec.ofInt 64 255).toNat : Int) := rfl
  rw [e]
  generalize (BitVec.ofInt 64 x &&& BitVec.ofInt 64 255).toNat = n at h
  have : IntKind.i64.wrap (n : Int) = n := by
    simp [IntKind.wrap, IntKind.bits, IntKind.signed]
    omega
  rw [this]
  omega

theorem curf_set (w : World) (cb : Nat) (a : Option Addr) (n cap : Nat) (i h h' : Int) (hr : RowOf w cb 84 3 (curf a n cap i h)) : RowOf (w.setCell ⟨cb, 2, none⟩ (.int .i64 h')) cb 84 3 (curf a n cap i h') := by
  refine (hr.set 2 (.int .i64 h')).congr fun j hj => ?_
  match j, hj with
  | 0, _ => rfl
  | 1, _ => rfl
  | 2, _ => rfl
theorem curf_set1 (w : World) (cb : Nat) (a : Option Addr) (n cap : Nat) (i i' h : Int) (hr : RowOf w cb 84 3 (curf a n cap i h)) : RowOf (w.setCell ⟨cb, 1, none⟩ (.int .i64 i')) cb 84 3 (curf a n cap i' h) := by
  refine (hr.set 1 (.int .i64 i')).congr fun j hj => ?_
  match j, hj with
  | 0, _ => rfl
  | 1, _ => rfl
  | 2, _ => rfl
theorem gb_set (w : World) (cb o : Nat) (v : Value) : w.grownBy (w.setCell ⟨cb, o, none⟩ v) (some cb) :=
  ⟨rfl, rfl, rfl, by simp [World.setCell], fun j _ hj => Below.heap_setCell _ _ _ _ (fun e => hj (by rw [e]))⟩
theorem gb_tr {a b c : World} {row : Option Nat} (h : a.grownBy b row) (k : b.grownBy c row) : a.grownBy c row :=
  ⟨k.os.trans h.os, k.tape.trans h.tape, k.output.trans h.output, Nat.le_trans h.size k.size, fun j hj hr => (k.block j (Nat.lt_of_lt_of_le hj h.size) hr).trans (h.block j hj hr)⟩
theorem gb_be {a b : World} (row : Option Nat) (h : Below a.heap.size a b) : a.grownBy b row := ⟨h.os, h.tape, h.output, h.size, fun j hj _ => h.block j hj⟩

set_option maxHeartbeats 1000000 in
theorem l1Byte_any (cb : Nat) (w : World) (hc : Cur w cb) :
    Calls Try.prog 54 #[.pointer (some ⟨cb, 0, none⟩)] w fun e w' => (∃ x : Int, e = .returned (.int .i64 x) ∧ 0 ≤ x ∧ x ≤ 255) ∧ Cur w' cb ∧ w.grownBy w' (some cb) := by
  obtain ⟨a, n, cap, i, hh, h1, h2', h3, h4, h5⟩ := hc
  have c0 : w.cell? ⟨cb, 0, none⟩ = some (.slice a n cap) := h4.cell (j := 0) (by omega)
  have c1 : w.cell? ⟨cb, 1, none⟩ = some (.int .i64 i) := h4.cell (j := 1) (by omega)
  have c2 : w.cell? ⟨cb, 2, none⟩ = some (.int .i64 hh) := h4.cell (j := 2) (by omega)
  have z0 := h4.frozen 0
  have z1 := h4.frozen 1
  have z2 := h4.frozen 2
  go_enter Try.func54, Try.ntmps54
  go_wp2_with fail
  generalize wrap64 (wrap64 (hh * 6364136223846793005) + 1442695040888963407) = h2
  have r1 := curf_set w cb a n cap i hh h2 h4
  have g1 := gb_set w cb 2 (.int .i64 h2)
  have y1 := h5.kept g1
  clear c0 c1 c2 z0 z1 z2 h4 h5
  generalize w.setCell ⟨cb, 2, none⟩ (.int .i64 h2) = w1 at *
  have c0 : w1.cell? ⟨cb, 0, none⟩ = some (.slice a n cap) := r1.cell (j := 0) (by omega)
  have c1 : w1.cell? ⟨cb, 1, none⟩ = some (.int .i64 i) := r1.cell (j := 1) (by omega)
  have c2 : w1.cell? ⟨cb, 2, none⟩ = some (.int .i64 h2) := r1.cell (j := 2) (by omega)
  have k2 := cell_regrown c2
  refine wp_region_quiet_below (by kernel_rfl) (by kernel_rfl) ?_
  repeat (go_big_quiet_step (fail))
  refine wpQuiet_nil ?_
  intro w2 hw2
  obtain ⟨⟨dq, osq⟩, hw3⟩ := hw2
  have hb2 : Below _ _ w2 := hw3 ▸ below_regrown _ dq osq
  clear hw3
  have hx := and_255 (bits BinOp.xor IntKind.i64 (h2 / 8589934592) (h2 / 35184372088832))
  generalize bits BinOp.and IntKind.i64 (bits BinOp.xor IntKind.i64 (h2 / 8589934592) (h2 / 35184372088832)) 255 = x at *
  have r2 := r1.of_block (hb2.block _ r1.lt)
  have g2 := gb_tr g1 (gb_be (some cb) hb2)
  have y2 := y1.stays hb2
  obtain ⟨k, rfl⟩ := Int.eq_ofNat_of_zero_le h2'
  have k0 := cell_regrown (cell_stays hb2 c0)
  have k1 := cell_regrown (cell_stays hb2 c1)
  clear k2 r1 g1 y1 c0 c1 c2 hb2
  by_cases hlt : (k : Int) < (n : Int)
  · have hkn : k < n := by omega
    go_wp2_with fail
    refine wp_region_quiet_below (by kernel_rfl) (by kernel_rfl) ?_
    repeat (go_big_quiet_step (fail))
    refine wpQuiet_nil ?_
    intro w3 hw3
    obtain ⟨⟨dq, osq⟩, hw4⟩ := hw3
    have hb3 : Below _ _ w3 := hw4 ▸ below_regrown _ dq osq
    clear hw4 k0 k1
    have r3 := r2.of_block (hb3.block _ r2.lt)
    have g3 := gb_tr g2 (gb_be (some cb) hb3)
    have y3 := y2.stays hb3
    obtain ⟨b, off, rfl, hbc, hby⟩ := id y3 (by omega)
    obtain ⟨xb, xb0, xb1, xb2⟩ := hby k hkn
    have c0 : w3.cell? ⟨cb, 0, none⟩ = some (.slice (some ⟨b, off, none⟩) n cap) := r3.cell (j := 0) (by omega)
    have c1 : w3.cell? ⟨cb, 1, none⟩ = some (.int .i64 (k : Int)) := r3.cell (j := 1) (by omega)
    have k0 := cell_regrown c0
    have k1 := cell_regrown c1
    have k3 := cell_regrown xb2
    have i0 : (0 : Int) ≤ (k : Int) := by omega
    clear hby c0 c1
    go_wp2_with fail
    refine wp_region_quiet_below (by kernel_rfl) (by kernel_rfl) ?_
    repeat (go_big_quiet_step (fail))
    refine wpQuiet_nil ?_
    intro w4 hw4
    obtain ⟨⟨dq, osq⟩, hw5⟩ := hw4
    have hb4 : Below _ _ w4 := hw5 ▸ below_regrown _ dq osq
    clear hw5 k0 k1 k3
    have r4 := r3.of_block (hb4.block _ r3.lt)
    have g4 := gb_tr g3 (gb_be (some cb) hb4)
    have y4 := y3.stays hb4
    have c1 : w4.cell? ⟨cb, 1, none⟩ = some (.int .i64 (k : Int)) := r4.cell (j := 1) (by omega)
    have z1 := r4.frozen 1
    have hy := and_255 (x + xb)
    unfold maxLen at h1
    generalize hv : bits BinOp.and IntKind.i64 (x + xb) 255 = y at *
    go_wp2
    go_ret
    exact ⟨⟨y, rfl, hy.1, hy.2⟩, ⟨_, n, cap, (k : Int) + 1, h2, by unfold maxLen; omega, by omega, by omega, curf_set1 _ _ _ _ _ _ _ _ r4, y4.kept (gb_set _ _ _ _)⟩, gb_tr g4 (gb_set _ _ _ _)⟩
  · have hlt' : decide ((k : Int) < (n : Int)) = false := by simpa using hlt
    go_wp2_with fail
    refine wp_region_quiet_below (by kernel_rfl) (by kernel_rfl) ?_
    repeat (go_big_quiet_step (fail))
    refine wpQuiet_nil ?_
    intro w3 hw3
    obtain ⟨⟨dq, osq⟩, hw4⟩ := hw3
    have hb3 : Below _ _ w3 := hw4 ▸ below_regrown _ dq osq
    clear hw4 k0 k1
    go_wp2
    go_ret
    exact ⟨⟨x, rfl, hx.1, hx.2⟩, ⟨a, n, cap, (k : Int), h2, h1, by omega, h3, r2.of_block (hb3.block _ r2.lt), y2.stays hb3⟩, gb_tr g2 (gb_be (some cb) hb3)⟩

end Go.Proofs.Ytifdfelpbonckaa
