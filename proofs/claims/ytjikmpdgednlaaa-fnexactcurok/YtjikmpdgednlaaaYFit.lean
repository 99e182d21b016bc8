/- The program's textsFit: all texts together. -/
import Derived.Test.YtjikmpdgednlaaaXTree3
namespace Go.Proofs.Ytjikmpdgednlaaa
open Go.ChangeShapes Go.WideShapes Go.ChangeAt Go.RowKit
set_option linter.unusedVariables false
set_option maxRecDepth 100000
attribute [local go_sem ↓] Go.wp_at_zero Go.wp_at_succ

def sumS (l : List Nd) : Nat := (l.map fun x => x.s.size).sum
def sumT (l : List ByteArray) : Nat := (l.map fun x => x.size).sum
def sumP (p : List Pr) : Nat := (p.map fun x => x.name.size + sumT x.ps).sum
theorem sumS_take {l : List Nd} {i : Nat} (hi : i < l.length) : sumS (l.take (i + 1)) = sumS (l.take i) + (ndAt l i).s.size := by
  have e : l.take (i + 1) = l.take i ++ [ndAt l i] := by
    rw [List.take_add_one, List.getElem?_eq_getElem hi]
    simp [ndAt, hi]
  rw [e]
  simp only [sumS, List.map_append, List.sum_append, List.map_cons, List.map_nil, List.sum_cons, List.sum_nil, Nat.add_zero]
theorem sumT_take {l : List ByteArray} {i : Nat} (hi : i < l.length) : sumT (l.take (i + 1)) = sumT (l.take i) + (sAt l i).size := by
  have e : l.take (i + 1) = l.take i ++ [sAt l i] := by
    rw [List.take_add_one, List.getElem?_eq_getElem hi]
    simp [sAt, hi]
  rw [e]
  simp only [sumT, List.map_append, List.sum_append, List.map_cons, List.map_nil, List.sum_cons, List.sum_nil, Nat.add_zero]
theorem sumP_take {l : List Pr} {i : Nat} (hi : i < l.length) : sumP (l.take (i + 1)) = sumP (l.take i) + ((prAt l i).name.size + sumT (prAt l i).ps) := by
  have e : l.take (i + 1) = l.take i ++ [prAt l i] := by
    rw [List.take_add_one, List.getElem?_eq_getElem hi]
    simp [prAt, hi]
  rw [e]
  simp only [sumP, List.map_append, List.sum_append, List.map_cons, List.map_nil, List.sum_cons, List.sum_nil, Nat.add_zero]
theorem sumS_le (l : List Nd) (i : Nat) : sumS (l.take i) ≤ sumS l := by
  have e : sumS l = sumS (l.take i) + sumS (l.drop i) := by rw [sumS, sumS, sumS, ← List.sum_append, ← List.map_append, List.take_append_drop]
  omega
theorem sumT_le (l : List ByteArray) (i : Nat) : sumT (l.take i) ≤ sumT l := by
  have e : sumT l = sumT (l.take i) + sumT (l.drop i) := by rw [sumT, sumT, sumT, ← List.sum_append, ← List.map_append, List.take_append_drop]
  omega
theorem sumP_le (l : List Pr) (i : Nat) : sumP (l.take i) ≤ sumP l := by
  have e : sumP l = sumP (l.take i) + sumP (l.drop i) := by rw [sumP, sumP, sumP, ← List.sum_append, ← List.map_append, List.take_append_drop]
  omega
def fitF (l : List Nd) (p : List Pr) : Bool := decide (sumS l + sumP p ≤ 24000)

set_option maxHeartbeats 8000000 in
theorem textsFit_any (v u : Value) (l : List Nd) (p : List Pr) (w : World) {lo hi : Nat} (h : SetAt lo hi w v u l p) (hs : sumS l + sumP p ≤ 4611686018427387904) :
    Calls Try.prog 65 #[.agg #[v, u]] w fun e w' => e = .returned (.bool (fitF l p)) ∧ Below w.heap.size w w' := by
  obtain ⟨a, c, b, d, rfl, rfl⟩ := h.forms
  have bA : Below w.heap.size w (w.alloc (Obj.cells #[.slice a l.length c, .slice b p.length d] 36)) := (Below.refl _ _).alloc (Nat.le_refl _) _
  have y0 : (w.alloc (Obj.cells #[.slice a l.length c, .slice b p.length d] 36)).cell? ⟨w.heap.size, 0, none⟩ = some (.slice a l.length c) := by simp [go_sem]
  have y1 : (w.alloc (Obj.cells #[.slice a l.length c, .slice b p.length d] 36)).cell? ⟨w.heap.size, 1, none⟩ = some (.slice b p.length d) := by simp [go_sem]
  obtain ⟨a1, c1, e1, hm1, hcc⟩ := id h.1
  cases e1
  obtain ⟨a2, c2, e2, hm2, hcp⟩ := id h.2
  cases e2
  unfold maxLen at hm1 hm2
  go_enter Try.func65, Try.ntmps65
  go_wp2_with fail
  obtain ⟨B, hB⟩ : ∃ b, b = w.heap.size := ⟨_, rfl⟩
  rw [← hB] at y0 y1 ⊢
  have hBz : B < (w.alloc (Obj.cells #[.slice a l.length c, .slice b p.length d] 36)).heap.size := by rw [hB]; simp
  clear hB
  generalize (w.alloc (Obj.cells #[.slice a l.length c, .slice b p.length d] 36)) = wA at *
  have VU : ∀ x : World, Below wA.heap.size wA x → x.cell? ⟨B, 1, none⟩ = some (.slice b p.length d) ∧ Below w.heap.size w x := fun x hx => ⟨cell_stays hx y1, bA.trans (hx.mono bA.size)⟩
  go_loopw [3, 13] (fun t3 t13 wr => ∃ (i N : Nat), t3 = .int .i64 (N : Int) ∧ t13 = .int .i64 (i : Int) ∧ i ≤ l.length ∧ Hid (N = sumS (l.take i)) ∧ Below wA.heap.size wA wr) (fun _ t13 _ => l.length - (intOf t13).toNat)
  case atStart => exact ⟨0, 0, rfl, rfl, Nat.zero_le _, rfl, Below.refl _ _⟩
  case round =>
    rename World => wo
    obtain ⟨i, N, rfl, rfl, hi, hN, hbo⟩ := hrel
    obtain ⟨z1, bW⟩ := VU _ hbo
    have hNb : N ≤ 4611686018427387904 := by have := hN.out; have := sumS_le l i; omega
    by_cases hlt : i < l.length
    · obtain ⟨nb, off, rfl, hlo, hhi, hcl⟩ := hcc (by omega)
      obtain ⟨n0, n1, n2, ka, kc, n3, Ki⟩ := hcl i hlt
      replace n0 := cell_stays bW n0
      replace n1 := cell_stays bW n1
      replace n2 := cell_stays bW n2
      replace n3 := cell_stays bW n3
      have i0 : (0 : Int) ≤ (i : Int) := by omega
      have i1 : (i : Int) < (l.length : Int) := by omega
      have hN2 : Hid (N + (ndAt l i).s.size = sumS (l.take (i + 1))) := by show _ = _; rw [sumS_take hlt, hN.out]
      have hNb2 : N + (ndAt l i).s.size ≤ 4611686018427387904 := by have := hN2.out; have := sumS_le l (i + 1); omega
      have hb2 : Below wA.heap.size wA (wo.alloc (Obj.cells #[.int .i64 (ndAt l i).k, .string (ndAt l i).s, .int .i64 (ndAt l i).n, .slice ka (ndAt l i).kids.length kc] 72)) := hbo.alloc hbo.size _
      clear hcl
      go_wp2
      go_roundw
      case rel => exact ⟨i + 1, N + (ndAt l i).s.size, by go_num, by go_num, by omega, hN2, hb2⟩
      case measure => simp [intOf]; omega
    · have hlt' : ¬ (i : Int) < (l.length : Int) := by omega
      have hN2 : Hid (N = sumS l + sumP (p.take 0)) := by
        show _ = _
        rw [hN.out, show i = l.length from by omega, List.take_length]
        simp [sumP]
      clear hN
      go_wp2_with fail
      clear hlt hlt' hi y0 y1 hcc
      go_loopw [3, 26] (fun t3 t26 wr => ∃ (k N : Nat), t3 = .int .i64 (N : Int) ∧ t26 = .int .i64 (k : Int) ∧ k ≤ p.length ∧ Hid (N = sumS l + sumP (p.take k)) ∧ Below wA.heap.size wA wr) (fun _ t26 _ => p.length - (intOf t26).toNat)
      case atStart => exact ⟨0, N, rfl, rfl, Nat.zero_le _, hN2, hbo⟩
      case round =>
        clear hN2 hNb z1 bW hbo
        rename World => wi
        obtain ⟨k, N, rfl, rfl, hk, hN, hbi⟩ := hrel
        obtain ⟨z1, bW⟩ := VU _ hbi
        have hNb : N ≤ 4611686018427387904 := by have := hN.out; have := sumP_le p k; omega
        by_cases hkl : k < p.length
        · obtain ⟨pb, off, rfl, hlo, hhi, hcl⟩ := hcp (by omega)
          obtain ⟨n0, ⟨ka, kc, n1, Ki⟩, n2⟩ := hcl k hkl
          replace n0 := cell_stays bW n0
          replace n1 := cell_stays bW n1
          replace n2 := cell_stays bW n2
          have k0 : (0 : Int) ≤ (k : Int) := by omega
          have k1 : (k : Int) < (p.length : Int) := by omega
          have hst := sumP_take hkl
          have hsl := sumP_le p (k + 1)
          have hN2 : Hid (N + (prAt p k).name.size = sumS l + sumP (p.take k) + (prAt p k).name.size + sumT ((prAt p k).ps.take 0)) := by show _ = _; rw [hN.out]; simp [sumT]
          have hNb2 : N + (prAt p k).name.size ≤ 4611686018427387904 := by have := hN.out; omega
          have hb2 : Below wA.heap.size wA (wi.alloc (Obj.cells #[.string (prAt p k).name, .slice ka (prAt p k).ps.length kc, .int .i64 (prAt p k).body] 73)) := hbi.alloc hbi.size _
          have q0 : (wi.alloc (Obj.cells #[.string (prAt p k).name, .slice ka (prAt p k).ps.length kc, .int .i64 (prAt p k).body] 73)).cell? ⟨wi.heap.size, 0, none⟩ = some (.string (prAt p k).name) := by simp [go_sem]
          have q1 : (wi.alloc (Obj.cells #[.string (prAt p k).name, .slice ka (prAt p k).ps.length kc, .int .i64 (prAt p k).body] 73)).cell? ⟨wi.heap.size, 1, none⟩ = some (.slice ka (prAt p k).ps.length kc) := by simp [go_sem]
          have hpm : (prAt p k).ps.length ≤ 9223372036854775807 := by obtain ⟨_, _, _, hm, _⟩ := Ki; unfold maxLen at hm; omega
          clear hcl hN
          change Hid _ at hst
          change Hid _ at hsl
          go_wp2_with fail
          clear n0 n1 n2 z1 bW hbi q0 q1
          generalize wi.alloc (Obj.cells #[.string (prAt p k).name, .slice ka (prAt p k).ps.length kc, .int .i64 (prAt p k).body] 73) = wP at *
          go_loopw [3, 38] (fun t3 t38 wr => ∃ (j N : Nat), t3 = .int .i64 (N : Int) ∧ t38 = .int .i64 (j : Int) ∧ j ≤ (prAt p k).ps.length ∧ Hid (N = sumS l + sumP (p.take k) + (prAt p k).name.size + sumT ((prAt p k).ps.take j)) ∧ Below wA.heap.size wA wr) (fun _ t38 _ => (prAt p k).ps.length - (intOf t38).toNat)
          case atStart => exact ⟨0, N + (prAt p k).name.size, by go_num, rfl, Nat.zero_le _, hN2, hb2⟩
          case round =>
            clear hN2 hNb hNb2 hb2
            rename World => wj
            obtain ⟨j, N, rfl, rfl, hj, hN, hbj⟩ := hrel
            obtain ⟨z1, bW⟩ := VU _ hbj
            have hNb : N ≤ 4611686018427387904 := by have := hN.out; have := hst.out; have := hsl.out; have := sumT_le (prAt p k).ps j; omega
            by_cases hjl : j < (prAt p k).ps.length
            · obtain ⟨ka', kc', e3, hm3, hkk⟩ := id Ki
              cases e3
              obtain ⟨kb, koff, rfl, hklo, hkhi, hkc⟩ := hkk (by omega)
              have kj := cell_stays bW (hkc j hjl)
              have j0 : (0 : Int) ≤ (j : Int) := by omega
              have j1 : (j : Int) < ((prAt p k).ps.length : Int) := by omega
              have hN2 : Hid (N + (sAt (prAt p k).ps j).size = sumS l + sumP (p.take k) + (prAt p k).name.size + sumT ((prAt p k).ps.take (j + 1))) := by show _ = _; rw [sumT_take hjl, hN.out]; omega
              have hNb2 : N + (sAt (prAt p k).ps j).size ≤ 4611686018427387904 := by have := hN2.out; have := hst.out; have := hsl.out; have := sumT_le (prAt p k).ps (j + 1); omega
              clear hkk hkc hN
              go_wp2
              go_roundw
              case rel => exact ⟨j + 1, N + (sAt (prAt p k).ps j).size, by go_num, by go_num, by omega, hN2, hbj⟩
              case measure => simp [intOf]; omega
            · have hjl' : ¬ (j : Int) < ((prAt p k).ps.length : Int) := by omega
              have hN2 : Hid (N = sumS l + sumP (p.take (k + 1))) := by
                show _ = _
                rw [hN.out, hst.out, show j = (prAt p k).ps.length from by omega, List.take_length]
                omega
              clear hN
              go_wp2
              go_roundw
              case rel => exact ⟨k + 1, N, rfl, by go_num, by omega, hN2, hbj⟩
              case measure => simp [intOf]; omega
        · have hkl' : ¬ (k : Int) < (p.length : Int) := by omega
          have hN2 : N = sumS l + sumP p := by rw [hN.out, show k = p.length from by omega, List.take_length]
          have e : fitF l p = decide (N ≤ 24000) := by rw [fitF, hN2]
          clear hN hN2
          change Hid _ at e
          by_cases hf : N ≤ 24000
          · have hf' : (N : Int) ≤ 24000 := by omega
            go_wp2
            go_ret
            exact ⟨by rw [e.out, decide_eq_true hf]; rfl, bW⟩
          · have hf' : ¬ (N : Int) ≤ 24000 := by omega
            go_wp2
            go_ret
            exact ⟨by rw [e.out, decide_eq_false hf]; rfl, bW⟩

end Go.Proofs.Ytjikmpdgednlaaa
