/- A procedure. -/
import Derived.Test.YtkdlgglikhbnkacPParse1
namespace Go.Proofs.Ytkdlgglikhbnkac
open Go.ChangeShapes Go.WideShapes Go.ChangeAt Go.RowKit
set_option linter.unusedVariables false
set_option maxRecDepth 100000
attribute [local go_sem ↓] Go.wp_at_zero Go.wp_at_succ

theorem Rd.setFar {base rb : Nat} {T : List Tk} {wv : Value} {en : Nat} {x : World} {i d : Nat} {nv : Value} {q : List Qn} (h : Rd base rb T wv en x i d nv q) {b o : Nat} (h0 : base ≤ b) (h1 : b ≠ rb) (h2 : nv.ownBlock ≠ some b) (h3 : ∀ k, k < q.length → (qnAt q k).2.ownBlock ≠ some b) (u : Value) : Rd base rb T wv en (x.setCell ⟨b, o, none⟩ u) i d nv q := by
  have hz : (x.setCell ⟨b, o, none⟩ u).heap.size = x.heap.size := by simp [World.setCell]
  have hk : ∀ g, g ≠ b → (x.setCell ⟨b, o, none⟩ u).heap[g]? = x.heap[g]? := fun g hg => Below.heap_setCell _ _ _ _ hg
  refine ⟨h.row.of_block (hk _ fun e => h1 e.symm), h.words.keep (fun g hg _ => hk g (by omega)) (by omega), h.own.keep (fun g hg _ => hk g (fun e => ?_)), h.rb0, h.nvb, h.kib, h.hi, h.hd, h.hq⟩
  subst e
  rcases hg with hg | ⟨k, hk, hg⟩
  · exact h2 hg
  · exact h3 k hk hg
theorem LocR.setFar {lo base rb : Nat} {x : World} {nv : Value} {q : List Qn} {E : TypeId} {sz : Nat} {lv : Value} {n : Nat} {xs : List Value} (h : LocR lo base rb x nv q E sz lv n xs) {b o : Nat} (h1 : lv.ownBlock ≠ some b) (u : Value) : LocR lo base rb (x.setCell ⟨b, o, none⟩ u) nv q E sz lv n xs :=
  ⟨own_keep h.row fun g hg _ => Below.heap_setCell _ _ _ _ (fun e => h1 (by have e2 : g = b := e; rw [← e2]; exact hg)), h.low, h.apart⟩

/-- What reading a procedure leaves. -/
def PrRet (base rb : Nat) (T : List Tk) (wv : Value) (en : Nat) (w : World) (nv : Value) (q : List Qn) (i0 : Nat) (r : PR Pr) (e : Ending) (w' : World) : Prop := match r with
  | .ok p i ns => ∃ a c, e = .returned (.agg #[.string p.name, .slice a p.ps.length c, .int .i64 p.body]) ∧ ∃ nv' q', Rd base rb T wv en w' i 0 nv' q' ∧ qnds q' = ns ∧ Mv rb w nv q w' nv' q' ∧ LocR w.heap.size base rb w' nv' q' 9 1 (.slice a p.ps.length c) p.ps.length (scells p.ps) ∧ i0 + 1 ≤ i ∧ q'.length + i0 ≤ q.length + i
  | .bad i => e = gives T en i ∧ i ≤ T.length ∧ Below base w w'

set_option maxHeartbeats 4000000 in
theorem procedure_any {base rb : Nat} {T : List Tk} {wv : Value} {en n : Nat} {w : World} {i : Nat} {nv : Value} {q : List Qn} (h : Rd base rb T wv en w i 0 nv q) (hn : T.length - i ≤ n) :
    Calls Try.prog 36 #[.pointer (some ⟨rb, 0, none⟩)] w (PrRet base rb T wv en w nv q i (procG T n i (qnds q))) := by
  have hT6 : T.length ≤ 6000 := by obtain ⟨_, _, _, h, _⟩ := h.words; exact h
  have hBl := (all_levels base rb T wv en n).block
  have hq0 := h.hq
  obtain ⟨TOP, hTOP⟩ : ∃ r, procG T n i (qnds q) = r := ⟨_, rfl⟩
  rw [hTOP]
  have hres : Hid (TOP = procG T n i (qnds q)) := hTOP.symm
  clear hTOP
  replace hres := hres.out; unfold procG at hres; change Hid _ at hres
  have bA : Below w.heap.size w (w.alloc (Obj.cells #[.string ⟨#[]⟩, .slice none 0 0, .int .i64 0] 36)) := (Below.refl _ _).alloc (Nat.le_refl _) _
  have hRA := h.stays bA
  have hMA := Mv.of_below (rb := rb) (nv := nv) (q := q) bA
  have r0 : (w.alloc (Obj.cells #[.string ⟨#[]⟩, .slice none 0 0, .int .i64 0] 36)).cell? ⟨w.heap.size, 0, none⟩ = some (.string ⟨#[]⟩) := by simp [go_sem]
  have r1 : (w.alloc (Obj.cells #[.string ⟨#[]⟩, .slice none 0 0, .int .i64 0] 36)).cell? ⟨w.heap.size, 1, none⟩ = some (.slice none 0 0) := by simp [go_sem]
  have r2 : (w.alloc (Obj.cells #[.string ⟨#[]⟩, .slice none 0 0, .int .i64 0] 36)).cell? ⟨w.heap.size, 2, none⟩ = some (.int .i64 0) := by simp [go_sem]
  have rf : ∀ j, (w.alloc (Obj.cells #[.string ⟨#[]⟩, .slice none 0 0, .int .i64 0] 36)).frozen? ⟨w.heap.size, j, none⟩ = false := fun j => by simp [go_sem]
  have hzA : w.heap.size + 1 ≤ (w.alloc (Obj.cells #[.string ⟨#[]⟩, .slice none 0 0, .int .i64 0] 36)).heap.size := by simp
  have hrb := h.row.lt
  go_enter Try.func36, Try.ntmps36
  go_wp2_with fail
  generalize w.alloc (Obj.cells #[.string ⟨#[]⟩, .slice none 0 0, .int .i64 0] 36) = wA at *
  go_wp2_with fail
  refine (skip_any hRA (ByteArray.mk #[112, 114, 111, 99]) (by decide)).mono ?_
  rcases hs1 : skipF T (ByteArray.mk #[112, 114, 111, 99]) i (qnds q) with ⟨u1, i1, ns1⟩ | ib
  rotate_left
  · rintro e wb ⟨rfl, hle, hB⟩
    replace hres := hres.out; rw [hs1, PR.then_bad] at hres; change Hid _ at hres
    go_wp2
    rw [hres.out]
    exact ⟨rfl, rfl, hle, (hMA.below h).trans hB⟩
  rintro e w1 ⟨rfl, hR1, rfl, m1⟩
  replace hres := hres.out; rw [hs1, PR.then_ok] at hres; change Hid _ at hres
  obtain ⟨fa1, fb1⟩ := skipF_ok hs1
  have hM1 := hMA.trans m1
  have hA1 := (Mv.refl (rb := rb) (w := wA) (nv := nv) (q := q)).trans m1
  clear hs1
  go_wp2_with fail
  refine (take_any hR1 2 (by omega)).mono ?_
  rcases hs2 : takeF T 2 i1 (qnds q) with ⟨t, i2, ns2⟩ | ib
  rotate_left
  · rintro e wb ⟨rfl, hle, hB⟩
    replace hres := hres.out; rw [hs2, PR.then_bad] at hres; change Hid _ at hres
    go_wp2
    rw [hres.out]
    exact ⟨rfl, rfl, hle, (hM1.below h).trans hB⟩
  rintro e w2 ⟨rfl, hR2, rfl, m2⟩
  replace hres := hres.out; rw [hs2, PR.then_ok] at hres; change Hid _ at hres
  obtain ⟨fa2, fb2⟩ := takeF_ok hs2
  have hM2 := hM1.trans m2
  have hA2 := (hA1).trans m2
  clear hs2
  have hfs_t : ∀ wy : World, (Instr.field 59 (.agg #[.int .i64 t.k, .string t.s, .int .i64 t.n, .int .i64 t.p]) 1).run Try.prog wy = .ok (.string t.s) wy := fun wy => by kernel_rfl
  have hfn_t : ∀ wy : World, (Instr.field 59 (.agg #[.int .i64 t.k, .string t.s, .int .i64 t.n, .int .i64 t.p]) 2).run Try.prog wy = .ok (.int .i64 t.n) wy := fun wy => by kernel_rfl
  go_wp2_with fail
  refine (skip_any hR2 (ByteArray.mk #[40]) (by decide)).mono ?_
  rcases hs3 : skipF T (ByteArray.mk #[40]) i2 (qnds q) with ⟨u3, i3, ns3⟩ | ib
  rotate_left
  · rintro e wb ⟨rfl, hle, hB⟩
    replace hres := hres.out; rw [hs3, PR.then_bad] at hres; change Hid _ at hres
    go_wp2
    rw [hres.out]
    exact ⟨rfl, rfl, hle, (hM2.below h).trans hB⟩
  rintro e w3 ⟨rfl, hR3, rfl, m3⟩
  replace hres := hres.out; rw [hs3, PR.then_ok] at hres; change Hid _ at hres
  obtain ⟨fa3, fb3⟩ := skipF_ok hs3
  have hM3 := hM2.trans m3
  have hA3 := (hA2).trans m3
  clear hs3
  have fz4 := hR3.hi
  have hzp := hA3.size
  go_wp2_with fail
  refine (params_any (n := n) hR3 (by omega)).mono ?_
  rcases hs4 : paramsG T n i3 (qnds q) with ⟨ps, i4, ns4⟩ | ib
  rotate_left
  · rintro e wb ⟨rfl, hle, hB⟩
    replace hres := hres.out; rw [hs4, PR.then_bad] at hres; change Hid _ at hres
    go_wp2
    rw [hres.out]
    exact ⟨rfl, rfl, hle, (hM3.below h).trans hB⟩
  rintro e w4 ⟨pa, pc, rfl, hR4, rfl, m4, hL4, fa4⟩
  replace hres := hres.out; rw [hs4, PR.then_ok] at hres; change Hid _ at hres
  have hM4 := hM3.trans m4
  have hA4 := (hA3).trans m4
  clear hs4
  go_wp2_with fail
  refine (skip_any hR4 (ByteArray.mk #[41]) (by decide)).mono ?_
  rcases hs5 : skipF T (ByteArray.mk #[41]) i4 (qnds q) with ⟨u5, i5, ns5⟩ | ib
  rotate_left
  · rintro e wb ⟨rfl, hle, hB⟩
    replace hres := hres.out; rw [hs5, PR.then_bad] at hres; change Hid _ at hres
    go_wp2
    rw [hres.out]
    exact ⟨rfl, rfl, hle, (hM4.below h).trans hB⟩
  rintro e w5 ⟨rfl, hR5, rfl, m5⟩
  replace hres := hres.out; rw [hs5, PR.then_ok] at hres; change Hid _ at hres
  obtain ⟨fa5, fb5⟩ := skipF_ok hs5
  have hM5 := hM4.trans m5
  have hA5 := (hA4).trans m5
  clear hs5
  have hLa := hL4.mv m5
  go_wp2_with fail
  refine (hBl w5 i5 0 nv q hR5 (by omega)).mono ?_
  rcases hs6 : blockG T (fns T n) 0 i5 (qnds q) with ⟨b, i6, ns6⟩ | ib
  rotate_left
  · rintro e wb ⟨rfl, hle, hB⟩
    replace hres := hres.out; rw [hs6, PR.then_bad] at hres; change Hid _ at hres
    go_wp2
    rw [hres.out]
    exact ⟨rfl, rfl, hle, (hM5.below h).trans hB⟩
  rintro e w6 ⟨rfl, nv6, q6, hR6, rfl, m6, fa6, fb6⟩
  replace hres := hres.out; rw [hs6, PR.then_ok] at hres; change Hid _ at hres
  have fc6 := hR6.hi
  have hM6 := hM5.trans m6
  have hA6 := (hA5).trans m6
  clear hs6
  have hLb := hLa.mv m6
  have kb : w6.heap[w.heap.size]? = wA.heap[w.heap.size]? := hA6.block _ (by omega) (by omega) (fun e => by have := (own_lt h.own.row e).2; omega)
  have s0 := cell_same kb r0
  have s1 := cell_same kb r1
  have s2 := cell_same kb r2
  have sf : ∀ j, w6.frozen? ⟨w.heap.size, j, none⟩ = false := fun j => by rw [World.frozen?_of_block (a := ⟨w.heap.size, j, none⟩) kb]; exact rf j
  have n1 : nv6.ownBlock ≠ some w.heap.size := fun e => by
    rcases hA6.ownv _ e with e | e
    · have := (own_lt h.own.row e).2; omega
    · omega
  have n2 : ∀ k, k < q6.length → (qnAt q6 k).2.ownBlock ≠ some w.heap.size := fun k hk e => by
    rcases hA6.kids k hk _ e with ⟨j, hj, e⟩ | e
    · have := (own_lt (h.own.lists j hj) e).2; omega
    · omega
  have n3 : (Value.slice pa ps.length pc).ownBlock ≠ some w.heap.size := fun e => by have := hLb.low _ e; omega
  have hbw := h.base_le
  have hLc := hLb.lower (lo' := w.heap.size) (by omega)
  clear r0 r1 r2 rf kb
  go_wp2
  rw [hres.out]
  refine bodyPost_ret (v := .agg #[.string t.s, .slice pa ps.length pc, .int .i64 (b : Int)]) (by simp [results, Try.results36, go_sem, s0, s1, s2]) rfl ⟨pa, pc, rfl, nv6, q6, ?_, rfl, ?_, ?_, by omega, by omega⟩
  · exact (((hR6.setFar hbw (by omega) n1 n2 _).setFar hbw (by omega) n1 n2 _).setFar hbw (by omega) n1 n2 _)
  · exact (((hM6.setNew (Nat.le_refl _) _).setNew (Nat.le_refl _) _).setNew (Nat.le_refl _) _)
  · exact (((hLc.setFar n3 _).setFar n3 _).setFar n3 _)

end Go.Proofs.Ytkdlgglikhbnkac
