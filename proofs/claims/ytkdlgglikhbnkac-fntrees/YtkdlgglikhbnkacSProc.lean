/- The specification's reader: a procedure. -/
import Derived.Test.YtkdlgglikhbnkacSBlock
import Derived.Test.YtkdlgglikhbnkacPParse1
namespace Go.Proofs.Ytkdlgglikhbnkac
open Go.ChangeShapes Go.WideShapes Go.ChangeAt Go.RowKit
set_option linter.unusedVariables false
set_option maxRecDepth 100000
attribute [local go_sem ↓] Go.wp_at_zero Go.wp_at_succ

def pf (a b c : Value) : Nat → Value
  | 0 => a
  | 1 => b
  | _ => c

/-- A store into a block of the caller's own. -/
theorem SAt.setOwn {base rb : Nat} {T : List Tk} {tv pv : Value} {w0 : World} {nv0 : Value} {q0 : List Qn} {i0 ad sl d : Nat} {L : List Nat} {w : World} {α : Type} {r : PR α} (h : SAt base rb T tv pv w0 nv0 q0 i0 ad sl d L w r) (hb0 : base ≤ w0.heap.size) {g o : Nat} (hg : g ∈ L) (u : Value) : SAt base rb T tv pv w0 nv0 q0 i0 ad sl d L (w.setCell ⟨g, o, none⟩ u) r := by
  have hz : (w.setCell ⟨g, o, none⟩ u).heap.size = w.heap.size := by simp [World.setCell]
  have hk : ∀ b, b ≠ g → (w.setCell ⟨g, o, none⟩ u).heap[b]? = w.heap[b]? := fun b hb => Below.heap_setCell _ _ _ _ hb
  rcases r with ⟨a, i, ns⟩ | i
  · obtain ⟨nv, q, hS, hq, hM, h1, h2, hO⟩ := h
    obtain ⟨a0, a1, a2, a3, a4⟩ := hO g hg
    refine ⟨nv, q, ⟨hS.row.of_block (hk _ fun e => a2 e.symm), hS.words.keep (fun b hb _ => hk b (by omega)) (by omega), hS.own.keep (fun b hb _ => hk b (fun e => ?_)), hS.rb0, hS.nvb, hS.kib, hS.hi, hS.hd, hS.hq⟩, hq, ⟨hM.os, hM.tape, hM.output, by rw [hz]; exact hM.size, fun b hb hr hn => ?_, hM.ownv, hM.kids⟩, h1, h2, fun b hb => ?_⟩
    · subst e
      rcases hb with hb | ⟨k, hk, hb⟩
      · exact a3 hb
      · exact a4 k hk hb
    · rw [hk b (by omega), hM.block b hb hr hn]
    · obtain ⟨b0, b1, b2, b3, b4⟩ := hO b hb
      exact ⟨b0, by rw [hz]; exact b1, b2, b3, b4⟩
  · obtain ⟨hB, hG, hO⟩ := h
    obtain ⟨a0, a1, a2⟩ := hO g hg
    refine ⟨hB.setNew (by show base ≤ g; omega) a2 u, ⟨hG.os, hG.tape, hG.output, by rw [hz]; exact hG.size, fun b hb hr hn => ?_⟩, fun b hb => ?_⟩
    · rw [hk b (by omega), hG.block b hb hr hn]
    · obtain ⟨b0, b1, b2⟩ := hO b hb
      exact ⟨b0, by rw [hz]; exact b1, b2⟩

/-- Behind an append to a row of the caller's own, of whatever elements. -/
theorem SAt.grownR {base rb : Nat} {T : List Tk} {tv pv : Value} {w0 : World} {nv0 : Value} {q0 : List Qn} {i0 ad sl d : Nat} {L : List Nat} {w w6 : World} {α : Type} {r : PR α} {lv : Value} {E : TypeId} {sz n : Nat} {xs : List Value} {o : Obj} {gg : Nat} (h : SAt base rb T tv pv w0 nv0 q0 i0 ad sl d L w r)
    (hrow : w.ownsRow base E sz lv n xs) (hL : ∀ g, lv.ownBlock = some g → g ∈ L) (hgg : gg < w6.heap.size) (hgrow : (w.alloc o).grownBy w6 lv.ownBlock) (hat : lv.ownBlock = some gg ∨ gg = w.heap.size + 1) :
    SAt base rb T tv pv w0 nv0 q0 i0 ad sl d (gg :: L) w6 r ∧ ∀ g, g ∈ L → lv.ownBlock ≠ some g → w6.heap[g]? = w.heap[g]? := by
  have hz : w.heap.size + 1 ≤ w6.heap.size := by have := hgrow.size; simpa using this
  have hz0 := h.size
  have hlt := h.lt
  have kb : ∀ g, g < w.heap.size → lv.ownBlock ≠ some g → w6.heap[g]? = w.heap[g]? := fun g hg hne => (hgrow.block g (by simp; omega) (fun e => hne e.symm)).trans (Below.heap_alloc _ _ _ hg)
  rcases r with ⟨a, i, ns⟩ | i
  · obtain ⟨nv, q, hS, hq, hM, h1, h2, hO⟩ := h
    have hnot : ∀ g, (nv.ownBlock = some g ∨ ∃ j, j < q.length ∧ (qnAt q j).2.ownBlock = some g) → lv.ownBlock ≠ some g := fun g hg e => by
      obtain ⟨a0, a1, a2, a3, a4⟩ := hO g (hL g e)
      rcases hg with hg | ⟨j, hj, hg⟩
      · exact a3 hg
      · exact a4 j hj hg
    refine ⟨⟨nv, q, ⟨hS.row.of_block (kb rb hlt fun e => (hO rb (hL rb e)).2.2.1 rfl), hS.words.keep (fun g hg hl => kb g hl fun e => by have := (own_lt hrow e).1; omega) (by omega), hS.own.keep fun g hg hl => kb g hl (hnot g hg), hS.rb0, hS.nvb, hS.kib, hS.hi, hS.hd, hS.hq⟩, hq, ⟨hgrow.os.trans hM.os, hgrow.tape.trans hM.tape, hgrow.output.trans hM.output, by omega, fun g hg hr hn => ?_, hM.ownv, hM.kids⟩, h1, h2, fun g hg => ?_⟩, fun g hg hne => kb g (hO g hg).2.1 hne⟩
    · rw [kb g (by omega) (fun e => by have := (hO g (hL g e)).1; omega), hM.block g hg hr hn]
    · rcases List.mem_cons.1 hg with rfl | hg
      · rcases hat with e | e
        · obtain ⟨a0, a1, a2, a3, a4⟩ := hO g (hL g e)
          exact ⟨a0, hgg, a2, a3, a4⟩
        · refine ⟨by omega, hgg, by omega, fun e2 => ?_, fun j hj e2 => ?_⟩
          · have := (own_lt hS.own.row e2).2; omega
          · have := (own_lt (hS.own.lists j hj) e2).2; omega
      · obtain ⟨a0, a1, a2, a3, a4⟩ := hO g hg
        exact ⟨a0, by omega, a2, a3, a4⟩
  · obtain ⟨hB, hG, hO⟩ := h
    have hrb : lv.ownBlock ≠ some rb := fun e => (hO rb (hL rb e)).2.2 rfl
    refine ⟨⟨?_, ⟨hgrow.os.trans hG.os, hgrow.tape.trans hG.tape, hgrow.output.trans hG.output, by omega, fun g hg hr hn => ?_⟩, fun g hg => ?_⟩, fun g hg hne => kb g (hO g hg).2.1 hne⟩
    · obtain ⟨d3, nv3, pv3, hr3⟩ := hB.row
      exact ⟨cell_same (kb rb hlt hrb) hB.c4, ⟨d3, nv3, pv3, hr3.of_block (kb rb hlt hrb)⟩, hB.words.keep (fun g hg hl => kb g hl fun e => by have := (own_lt hrow e).1; omega) (by omega), hB.rb0, hB.hi⟩
    · rw [kb g (by omega) (fun e => by have := (hO g (hL g e)).1; omega), hG.block g hg hr hn]
    · rcases List.mem_cons.1 hg with rfl | hg
      · rcases hat with e | e
        · exact ⟨(hO g (hL g e)).1, hgg, (hO g (hL g e)).2.2⟩
        · exact ⟨by omega, hgg, by omega⟩
      · obtain ⟨a0, a1, a2⟩ := hO g hg
        exact ⟨a0, by omega, a2⟩
theorem SAt.sub {base rb : Nat} {T : List Tk} {tv pv : Value} {w0 : World} {nv0 : Value} {q0 : List Qn} {i0 ad sl d : Nat} {L L' : List Nat} {w : World} {α : Type} {r : PR α} (h : SAt base rb T tv pv w0 nv0 q0 i0 ad sl d L w r) (hs : ∀ g, g ∈ L' → g ∈ L) : SAt base rb T tv pv w0 nv0 q0 i0 ad sl d L' w r := by
  rcases r with ⟨a, i, ns⟩ | i
  · obtain ⟨nv, q, hS, hq, hM, h1, h2, hO⟩ := h
    exact ⟨nv, q, hS, hq, hM, h1, h2, fun g hg => hO g (hs g hg)⟩
  · obtain ⟨hB, hG, hO⟩ := h
    exact ⟨hB, hG, fun g hg => hO g (hs g hg)⟩

/-- What reading a procedure leaves. -/
def SPrRet (base rb : Nat) (T : List Tk) (tv pv : Value) (w : World) (nv : Value) (q : List Qn) (i0 : Nat) (r : PR Pr) (e : Ending) (w' : World) : Prop := match r with
  | .ok p i ns => ∃ a c, e = .returned (.agg #[.string p.name, .slice a p.ps.length c, .int .i64 p.body]) ∧ ∃ nv' q', Sd base rb T tv pv w' i 0 nv' q' ∧ qnds q' = ns ∧ Mv rb w nv q w' nv' q' ∧ LocR w.heap.size base rb w' nv' q' 9 1 (.slice a p.ps.length c) p.ps.length (scells p.ps) ∧ i0 + 1 ≤ i ∧ q'.length + i0 ≤ q.length + i
  | .bad i => ∃ s a m c b, e = .returned (.agg #[.string s, .slice a m c, .int .i64 b]) ∧ Bd base rb T tv pv w' i ∧ Gz rb w nv w'

theorem proc_done {base rb : Nat} {T : List Tk} {tv pv : Value} {w0 : World} {nv0 : Value} {q0 : List Qn} {i0 ad sl : Nat} {L : List Nat} {w : World} {α : Type} {r : PR (α × Nat)} {z : Int} {TOP : PR Pr} {nm : ByteArray} {ps : List ByteArray} {a : Option Addr} {c : Nat} (s : SAt base rb T tv pv w0 nv0 q0 i0 ad sl 0 L w r) (v : Val r z (fun p => (p.2 : Int))) (hTOP : TOP = r.then fun p i ns => .ok ⟨nm, ps, (p.2 : Int)⟩ i ns)
    (own : w.ownsRow base 9 1 (.slice a ps.length c) ps.length (scells ps)) (hL : ∀ g, (Value.slice a ps.length c).ownBlock = some g → g ∈ L) (had : 1 ≤ ad) : SPrRet base rb T tv pv w0 nv0 q0 i0 TOP (.returned (.agg #[.string nm, .slice a ps.length c, .int .i64 z])) w := by
  subst hTOP
  rcases r with ⟨p, i, ns⟩ | i
  · obtain ⟨nv, q, hS, hq, hM, h1, h2, hO⟩ := s
    have e := v p i ns rfl
    subst e
    exact ⟨a, c, rfl, nv, q, hS, hq, hM, ⟨own, fun g hg => (hO g (hL g hg)).1, fun g hg => (hO g (hL g hg)).2.2⟩, by omega, by omega⟩
  · obtain ⟨hB, hG, hO⟩ := s
    exact ⟨nm, a, ps.length, c, z, rfl, hB, hG⟩

/-- What is still to come of a procedure, behind its first parameter. -/
def PrmR (T : List Tk) (TOP : PR Pr) (n m : Nat) (nm : ByteArray) (ps : List ByteArray) (r : PR Unit) : Prop := match r with
  | .ok _ i' ns' => T.length - i' < m ∧ ps.length ≤ i' ∧ TOP = (paramsL T m ps i' ns').then fun ps i ns => (skipF T (ByteArray.mk #[41]) i ns).then fun _ i ns => (blockG T (fns T n) 0 i ns).then fun b i ns => .ok ⟨nm, ps, (b : Int)⟩ i ns
  | .bad i' => ps.length ≤ 6001 ∧ TOP = .bad i'

/-- Behind the bracket. -/
def procH (T : List Tk) (i : Nat) (ns : List Nd) : PR (Unit × Tk) :=
  (((PR.ok () i ns).then fun a i ns => (skipF T (ByteArray.mk #[112, 114, 111, 99]) i ns).then fun _ i ns => PR.ok a i ns).then fun a i ns => (takeF T 2 i ns).then fun t i ns => PR.ok (a, t) i ns).then fun a i ns => (skipF T (ByteArray.mk #[40]) i ns).then fun _ i ns => PR.ok a i ns
theorem procG_H (T : List Tk) (n i : Nat) (ns : List Nd) : procG T n i ns = (procH T i ns).then fun x i ns => (paramsG T n i ns).then fun ps i ns => (skipF T (ByteArray.mk #[41]) i ns).then fun _ i ns => (blockG T (fns T n) 0 i ns).then fun b i ns => .ok ⟨x.2.s, ps, (b : Int)⟩ i ns := by
  simp only [procG, procH, PR.then_ok, PR.then_assoc]
theorem proc_none {T : List Tk} {n i : Nat} {ns : List Nd} {p : Unit × Tk} {i' : Nat} {ns' : List Nd} (h : procH T i ns = .ok p i' ns') (hw : wS T i' = (ByteArray.mk #[41])) : procG T n i ns = (blockG T (fns T n) 0 (i' + 1) ns').then fun b i ns => .ok ⟨p.2.s, [], (b : Int)⟩ i ns := by
  rw [procG_H, h, PR.then_ok, paramsG, if_pos hw, PR.then_ok, skipF, if_pos hw, PR.then_ok]
theorem procH_ok {T : List Tk} {i : Nat} {ns : List Nd} {p : Unit × Tk} {i' : Nat} {ns' : List Nd} (h : procH T i ns = .ok p i' ns') : i + 3 ≤ i' := by
  rw [procH, PR.then_ok] at h
  rcases h1 : skipF T (ByteArray.mk #[112, 114, 111, 99]) i ns with ⟨u, i1, ns1⟩ | i1
  · rw [h1, PR.then_ok, PR.then_ok] at h
    rcases h2 : takeF T 2 i1 ns1 with ⟨t, i2, ns2⟩ | i2
    · rw [h2, PR.then_ok, PR.then_ok] at h
      rcases h3 : skipF T (ByteArray.mk #[40]) i2 ns2 with ⟨u3, i3, ns3⟩ | i3
      · rw [h3, PR.then_ok] at h
        injection h with e1 e2 e3
        have a1 := skipF_ok h1
        have a2 := takeF_ok h2
        have a3 := skipF_ok h3
        omega
      · rw [h3] at h; cases h
    · rw [h2] at h; cases h
  · rw [h1] at h; cases h
/-- Behind the first parameter. -/
theorem prm_start {T : List Tk} {TOP : PR Pr} {n i : Nat} {ns : List Nd} (hTOP : TOP = procG T n i ns) (hn : T.length - i ≤ n) (hT : T.length ≤ 6000) (h0 : i ≤ T.length) (hw : ∀ a i' ns', procH T i ns = .ok a i' ns' → ¬ wS T i' = (ByteArray.mk #[41])) {t u : Tk} (vt : Val ((procH T i ns).then fun a i ns => (takeF T 2 i ns).then fun t i ns => PR.ok (a, t) i ns) t (fun p => p.1.2)) (vu : Val ((procH T i ns).then fun a i ns => (takeF T 2 i ns).then fun t i ns => PR.ok (a, t) i ns) u (fun p => p.2)) :
    PrmR T TOP n n t.s [u.s] (((procH T i ns).then fun a i ns => (takeF T 2 i ns).then fun t i ns => PR.ok (a, t) i ns).then fun _ i ns => PR.ok () i ns) := by
  rcases hp : procH T i ns with ⟨p, i1, ns1⟩ | i1
  · have a1 := hw p i1 ns1 hp
    have a2 := procH_ok hp
    rw [hp] at vt vu
    rw [PR.then_ok] at vt vu ⊢
    rcases ht : takeF T 2 i1 ns1 with ⟨x, i2, ns2⟩ | i2
    · rw [ht, PR.then_ok] at vt vu
      have e1 := vt (p, x) i2 ns2 rfl
      have e2 := vu (p, x) i2 ns2 rfl
      have a3 := takeF_ok ht
      have a4 : i1 < T.length := by
        rw [takeF] at ht
        split at ht
        · rename_i hk
          exact kind_lt hk (by omega)
        · cases ht
      rw [PR.then_ok, PR.then_ok]
      refine ⟨by omega, by simp; omega, ?_⟩
      rw [hTOP, procG_H, hp, PR.then_ok, paramsG, if_neg a1, ht, PR.then_ok, e1, e2]
    · rw [PR.then_bad, PR.then_bad]
      exact ⟨by simp, by rw [hTOP, procG_H, hp, PR.then_ok, paramsG, if_neg a1, ht, PR.then_bad, PR.then_bad]⟩
  · rw [PR.then_bad, PR.then_bad]
    exact ⟨by simp, by rw [hTOP, procG_H, hp, PR.then_bad]⟩
/-- Behind the last parameter. -/
theorem prm_end {T : List Tk} {TOP : PR Pr} {n m : Nat} {nm : ByteArray} {ps : List ByteArray} {r : PR Unit} (h : PrmR T TOP n m nm ps r) (hw : ∀ a i' ns', r = .ok a i' ns' → ¬ wS T i' = (ByteArray.mk #[44])) : TOP = (r.then fun a i ns => (skipF T (ByteArray.mk #[41]) i ns).then fun _ i ns => PR.ok a i ns).then fun _ i ns => (blockG T (fns T n) 0 i ns).then fun b i ns => .ok ⟨nm, ps, (b : Int)⟩ i ns := by
  rcases r with ⟨a, i', ns'⟩ | i'
  · obtain ⟨h1, h2, h3⟩ := h
    have a1 := hw a i' ns' rfl
    obtain ⟨m1, rfl⟩ : ∃ m1, m = m1 + 1 := ⟨m - 1, by omega⟩
    rw [h3, paramsL_end a1, PR.then_ok, PR.then_ok, PR.then_assoc]
    rfl
  · exact h.2

/-- One parameter more. -/
theorem prm_more {T : List Tk} {TOP : PR Pr} {n m : Nat} {nm : ByteArray} {ps : List ByteArray} {a : Unit} {i : Nat} {ns : List Nd} (h : PrmR T TOP n m nm ps (PR.ok a i ns)) (hw : wS T i = (ByteArray.mk #[44])) (hT : T.length ≤ 6000) (hi : i ≤ T.length) {x : Tk} (v : Val ((PR.ok a (i + 1) ns).then fun a i ns => (takeF T 2 i ns).then fun t i ns => PR.ok (a, t) i ns) x (fun p => p.2)) :
    ∃ m1, PrmR T TOP n m1 nm (ps ++ [x.s]) (((PR.ok a (i + 1) ns).then fun a i ns => (takeF T 2 i ns).then fun t i ns => PR.ok (a, t) i ns).then fun _ i ns => PR.ok () i ns) := by
  obtain ⟨h1, h2, h3⟩ := h
  obtain ⟨m1, rfl⟩ : ∃ m1, m = m1 + 1 := ⟨m - 1, by omega⟩
  refine ⟨m1, ?_⟩
  rw [PR.then_ok] at v ⊢
  rcases ht : takeF T 2 (i + 1) ns with ⟨y, i2, ns2⟩ | i2
  · rw [ht, PR.then_ok] at v
    have e2 := v (a, y) i2 ns2 rfl
    have a3 := takeF_ok ht
    have a4 : i + 1 < T.length := by
      rw [takeF] at ht
      split at ht
      · rename_i hk
        exact kind_lt hk (by omega)
      · cases ht
    rw [PR.then_ok, PR.then_ok]
    refine ⟨by omega, by simp; omega, ?_⟩
    rw [h3, paramsL_more hw, ht, PR.then_ok, e2]
  · rw [PR.then_bad, PR.then_bad]
    exact ⟨by simp; omega, by rw [h3, paramsL_more hw, ht, PR.then_bad, PR.then_bad]⟩

/-- How far what reading has come to has to go. -/
def farR {α : Type} (len : Nat) (r : PR α) : Nat := match r with
  | .ok _ i _ => len - i + 1
  | .bad _ => 0
theorem SAt.far {base rb : Nat} {T : List Tk} {tv pv : Value} {w0 : World} {nv0 : Value} {q0 : List Qn} {i0 ad sl d : Nat} {L : List Nat} {w : World} {α : Type} {r : PR α} (h : SAt base rb T tv pv w0 nv0 q0 i0 ad sl d L w r) : sFar w rb T.length = farR T.length r := by
  rcases r with ⟨a, i, ns⟩ | i
  · obtain ⟨nv, q, hS, _⟩ := h; exact hS.far
  · exact h.1.far
theorem farR_take {T : List Tk} {a : Unit} {i : Nat} {ns : List Nd} (hi : i < T.length) : farR T.length (((PR.ok a (i + 1) ns).then fun a i ns => (takeF T 2 i ns).then fun t i ns => PR.ok (a, t) i ns).then fun _ i ns => PR.ok () i ns) < T.length - i + 1 := by
  rw [PR.then_ok]
  rcases ht : takeF T 2 (i + 1) ns with ⟨y, i2, ns2⟩ | i2
  · have a3 := takeF_ok ht
    rw [PR.then_ok, PR.then_ok]
    show T.length - i2 + 1 < _
    omega
  · rw [PR.then_bad, PR.then_bad]
    show 0 < _
    omega

theorem rowOf_fresh (w : World) (a b c : Value) (E : TypeId) : RowOf (w.alloc (Obj.cells #[a, b, c] E)) w.heap.size E 3 (pf a b c) := by
  refine ⟨#[a, b, c], heap_alloc_new w _, by simp, fun j hj => ?_⟩
  match j, hj with
  | 0, _ => rfl
  | 1, _ => rfl
  | 2, _ => rfl
theorem RowOf.set1 {w : World} {g : Nat} {E : TypeId} {a b c : Value} (h : RowOf w g E 3 (pf a b c)) (u : Value) : RowOf (w.setCell ⟨g, 1, none⟩ u) g E 3 (pf a u c) :=
  (h.set 1 u).congr fun j hj => by
    match j, hj with
    | 0, _ => rfl
    | 1, _ => rfl
    | 2, _ => rfl
theorem RowOf.set2 {w : World} {g : Nat} {E : TypeId} {a b c : Value} (h : RowOf w g E 3 (pf a b c)) (u : Value) : RowOf (w.setCell ⟨g, 2, none⟩ u) g E 3 (pf a b u) :=
  (h.set 2 u).congr fun j hj => by
    match j, hj with
    | 0, _ => rfl
    | 1, _ => rfl
    | 2, _ => rfl

set_option maxHeartbeats 8000000 in
theorem sproc_any {base rb : Nat} {T : List Tk} (hT : Goods T) {tv pv : Value} {n : Nat} {w : World} {i : Nat} {nv : Value} {q : List Qn} (h : Sd base rb T tv pv w i 0 nv q) (hn : T.length - i ≤ n) :
    Calls Try.prog 18 #[.pointer (some ⟨rb, 0, none⟩)] w (SPrRet base rb T tv pv w nv q i (procG T n i (qnds q))) := by
  have hT6 : T.length ≤ 6000 := by obtain ⟨_, _, _, h, _⟩ := h.words; exact h
  have hBl := (sall_levels base rb T hT tv pv n).block
  have hi0 := h.hi
  have hbase := h.base_le
  obtain ⟨iI, hII, hzi0, hzi1, hzi2⟩ := info_parts infoS
  obtain ⟨TOP, hTOP⟩ : ∃ r, procG T n i (qnds q) = r := ⟨_, rfl⟩
  rw [hTOP]
  have hres : Hid (TOP = procG T n i (qnds q)) := hTOP.symm
  clear hTOP
  have sA := (SAt.start h).fresh (Obj.cells #[.string ⟨#[]⟩, .slice none 0 0, .int .i64 0] 36)
  have RA := rowOf_fresh w (.string ⟨#[]⟩) (.slice none 0 0) (.int .i64 0) 36
  go_enter Try.func18, Try.ntmps18
  go_wp2_with fail
  have hbw : base ≤ w.heap.size := hbase
  obtain ⟨B0, hB0⟩ : ∃ b, b = w.heap.size := ⟨_, rfl⟩
  rw [← hB0] at RA sA ⊢
  clear hB0
  generalize w.alloc (Obj.cells #[.string ⟨#[]⟩, .slice none 0 0, .int .i64 0] 36) = wA at *
  refine (want_s hT sA ask_proc).mono ?_
  rintro e w1 ⟨rfl, s1, k1⟩
  have R1 := RA.of_block (k1 B0 (by simp))
  go_wp2_with fail
  refine (kind_s s1 2 (by decide)).mono ?_
  rintro e w2 ⟨t, rfl, s2, v2, k2⟩
  have R2 := R1.of_block (k2 B0 (by simp))
  have hfs_t : ∀ wy : World, (Instr.field 59 (.agg #[.int .i64 t.k, .string t.s, .int .i64 t.n, .int .i64 t.p]) 1).run Try.prog wy = .ok (.string t.s) wy := fun wy => by kernel_rfl
  have s3 := s2.fresh (Obj.cells #[.string t.s, .slice none 0 0, .int .i64 0] 36)
  have X3 := rowOf_fresh w2 (.string t.s) (.slice none 0 0) (.int .i64 0) 36
  have R3 := R2.of_block (w' := w2.alloc (Obj.cells #[.string t.s, .slice none 0 0, .int .i64 0] 36)) (Below.heap_alloc _ _ _ R2.lt)
  have hB01 : B0 < w2.heap.size := R2.lt
  clear R1 R2 RA sA s1 s2 k1 k2
  go_wp2_with fail
  obtain ⟨B1, hB1⟩ : ∃ b, b = w2.heap.size := ⟨_, rfl⟩
  rw [← hB1] at X3 s3 hB01 ⊢
  clear hB1
  generalize w2.alloc (Obj.cells #[.string t.s, .slice none 0 0, .int .i64 0] 36) = w3 at *
  refine (want_s hT s3 ask_open).mono ?_
  rintro e w4 ⟨rfl, s4, k4⟩
  have R4 := R3.of_block (k4 B0 (by simp))
  have X4 := X3.of_block (k4 B1 (by simp))
  have v4 := v2.skip T (ByteArray.mk #[40])
  change SAt _ _ _ _ _ _ _ _ _ _ _ _ _ _ (procH T i (qnds q)) at s4
  change Val (procH T i (qnds q)) _ _ at v4
  clear s3 R3 X3 v2 k4
  go_wp2_with fail
  refine (take_s hT s4 ask_shut).mono ?_
  rintro e w5 ⟨k5, ⟨rfl, a, i5, ns5, hr5, hs5, s5⟩ | ⟨rfl, s5, hn5⟩⟩
  · have R5 := R4.of_block (k5 B0 (by simp))
    have X5 := X4.of_block (k5 B1 (by simp))
    have et := v4 _ _ _ hr5
    have hres2 : Hid (TOP = _) := hres.out.trans (proc_none hr5 hs5)
    clear hs5 hr5 v4 R4 X4 s4 k5
    subst et
    go_wp2_with fail
    refine (part_s s5 _ (fun i ns => blockG T (fns T n) 0 i ns) (fun w i nv q h hi => hBl w i 0 nv q h (by omega)) (fun w i h => sblock_bad h)).mono ?_
    rintro e w9 ⟨z, rfl, s9, v9, k9⟩
    have R9 := R5.of_block (k9 B0 (by simp))
    have X9 := X5.of_block (k9 B1 (by simp))
    have x0 : w9.cell? ⟨B1, 0, none⟩ = some (.string a.2.s) := X9.cell (by omega)
    have x1 : w9.cell? ⟨B1, 1, none⟩ = some (.slice none 0 0) := X9.cell (by omega)
    have x2 : w9.cell? ⟨B1, 2, none⟩ = some (.int .i64 0) := X9.cell (by omega)
    have xf : ∀ j, w9.frozen? ⟨B1, j, none⟩ = false := fun j => X9.frozen j
    have r0 : w9.cell? ⟨B0, 0, none⟩ = some (.string ⟨#[]⟩) := R9.cell (by omega)
    have r1 : w9.cell? ⟨B0, 1, none⟩ = some (.slice none 0 0) := R9.cell (by omega)
    have r2 : w9.cell? ⟨B0, 2, none⟩ = some (.int .i64 0) := R9.cell (by omega)
    have rf : ∀ j, w9.frozen? ⟨B0, j, none⟩ = false := fun j => R9.frozen j
    have hne : B1 ≠ B0 := by omega
    have hne' : B0 ≠ B1 := by omega
    clear R9 X9 R5 X5 k9 s5
    go_wp2
    refine bodyPost_ret (v := .agg #[.string a.2.s, .slice none 0 0, .int .i64 z]) (by simp [results, Try.results18, go_sem, r0, r1, r2]) rfl ?_
    refine proc_done (ps := []) (((((s9.setOwn hbw (g := B1) (by simp) _).setOwn hbw (g := B0) (by simp) _).setOwn hbw (g := B0) (by simp) _).setOwn hbw (g := B0) (by simp) _)) v9 ?_ (World.ownsRow_nil _ _ _ _) (fun g hg => by cases hg) ?_
    · rw [hres2.out]
      simp only [PR.then_ok, PR.then_assoc]
    · omega
  have R5 := R4.of_block (k5 B0 (by simp))
  have X5 := X4.of_block (k5 B1 (by simp))
  clear s4 R4 X4 k5
  go_wp2_with fail
  refine (kind_s s5 2 (by decide)).mono ?_
  rintro e w6 ⟨u, rfl, s6, v6, k6⟩
  have R6 := R5.of_block (k6 B0 (by simp))
  have X6 := X5.of_block (k6 B1 (by simp))
  have v46 := v4.pair (fun i ns => takeF T 2 i ns)
  have hprm : Hid (PrmR T TOP n n t.s [u.s] _) := prm_start hres.out hn hT6 hi0 hn5 v46 v6
  have hfs_u : ∀ wy : World, (Instr.field 59 (.agg #[.int .i64 u.k, .string u.s, .int .i64 u.n, .int .i64 u.p]) 1).run Try.prog wy = .ok (.string u.s) wy := fun wy => by kernel_rfl
  have s6' := (s6.map (fun _ => ()))
  generalize (((procH T i (qnds q)).then fun a i ns => (takeF T 2 i ns).then fun t i ns => PR.ok (a, t) i ns).then fun _ i ns => PR.ok () i ns) = rS at *
  have hb6 : base ≤ w6.heap.size := s6.base_le
  have hB16 : B1 < w6.heap.size := X6.lt
  have x1 : w6.cell? ⟨B1, 1, none⟩ = some (.slice none 0 0) := X6.cell (by omega)
  have xf : w6.frozen? ⟨B1, 1, none⟩ = false := X6.frozen 1
  have s7 := s6'.setOwn hbw (g := B1) (o := 1) (by simp) (.slice (some ⟨w6.heap.size, 0, none⟩) 1 1)
  have X7 := X6.set1 (.slice (some ⟨w6.heap.size, 0, none⟩) 1 1)
  have R7 := R6.setOther (a := ⟨B1, 1, none⟩) (by show B0 ≠ B1; omega) (.slice (some ⟨w6.heap.size, 0, none⟩) 1 1)
  have hz7 : (w6.setCell ⟨B1, 1, none⟩ (.slice (some ⟨w6.heap.size, 0, none⟩) 1 1)).heap.size = w6.heap.size := by simp [World.setCell]
  change Hid _ at hz7
  clear R5 X5 R6 X6 s5 s6 s6' v46 v6 hn5 v4 k6
  go_wp2_with fail
  clear x1 xf hres
  replace hz7 := hz7.out
  obtain ⟨G0, hG0⟩ : ∃ b, b = w6.heap.size := ⟨_, rfl⟩
  rw [← hG0] at s7 X7 R7 hB16 hb6 hz7 ⊢
  clear hG0
  generalize w6.setCell ⟨B1, 1, none⟩ (.slice (some ⟨G0, 0, none⟩) 1 1) = w7 at *
  have s8 := s7.fresh (Obj.cells #[.string u.s] 9)
  have X8 := X7.of_block (w' := w7.alloc (Obj.cells #[.string u.s] 9)) (Below.heap_alloc _ _ _ X7.lt)
  have R8 := R7.of_block (w' := w7.alloc (Obj.cells #[.string u.s] 9)) (Below.heap_alloc _ _ _ R7.lt)
  have o8 : (w7.alloc (Obj.cells #[.string u.s] 9)).ownsRow base 9 1 (.slice (some ⟨w7.heap.size, 0, none⟩) 1 1) 1 (scells [u.s]) :=
    ⟨by simp [scells], .inr ⟨w7.heap.size, 1, #[.string u.s], rfl, by omega, heap_alloc_new w7 _, Nat.le_refl _, by unfold maxLen; omega, by simp, by simp [scells]⟩⟩
  rw [hz7] at s8 o8
  clear s7 X7 R7 hz7
  replace s8 := s8.less (ad' := 4) (sl' := 4) (by omega) (by omega)
  generalize w7.alloc (Obj.cells #[.string u.s] 9) = w8 at *
  go_loopw [] (fun wr => ∃ (m : Nat) (ps : List ByteArray) (r : PR Unit) (G kc : Nat), SAt base rb T tv pv w nv q i 4 4 0 [G, B1, B0] wr r ∧ B1 < G ∧ RowOf wr B1 36 3 (pf (.string t.s) (.slice (some ⟨G, 0, none⟩) ps.length kc) (.int .i64 0)) ∧ RowOf wr B0 36 3 (pf (.string ⟨#[]⟩) (.slice none 0 0) (.int .i64 0)) ∧ wr.ownsRow base 9 1 (.slice (some ⟨G, 0, none⟩) ps.length kc) ps.length (scells ps) ∧ Hid (PrmR T TOP n m t.s ps r)) (fun wr => sFar wr rb T.length)
  case atStart => exact ⟨n, [u.s], rS, G0, 1, s8, hB16, X8, R8, o8, hprm⟩
  case round =>
    clear s8 X8 R8 o8 hB16 hprm hfs_t hfs_u
    rename World => wo
    obtain ⟨m, ps, r, G, kc, hS, hG, hX, hR, hO, hprm⟩ := hrel
    have hLv : ∀ g, (Value.slice (some ⟨G, 0, none⟩) ps.length kc).ownBlock = some g → g = G := fun g hg => by
      have hg' : some G = some g := hg
      injection hg' with hg'
      exact hg'.symm
    go_wp2_with fail
    refine (take_s hT hS ask_comma).mono ?_
    rintro e w10 ⟨k10, ⟨rfl, a, i10, ns10, hr10, hs10, s10⟩ | ⟨rfl, s10, hn10⟩⟩
    · subst hr10
      have hX10 := hX.of_block (k10 B1 (by simp))
      have hR10 := hR.of_block (k10 B0 (by simp))
      have O10 := own_keep (w' := w10) hO fun g hg _ => k10 g (by rw [hLv g hg]; simp)
      have hpo := hS.far
      change Hid _ at hpo
      have hi10 : i10 < T.length := wS_lt hs10 (by decide)
      obtain ⟨hm1, hm2, hm3⟩ := id hprm.out
      change Hid _ at hm3
      change Hid _ at hs10
      clear hX hR hO hS k10
      have x1 : w10.cell? ⟨B1, 1, none⟩ = some (.slice (some ⟨G, 0, none⟩) ps.length kc) := hX10.cell (by omega)
      have bD := (Below.refl w10.heap.size w10).drew
      have s10d := s10.stays bD
      have hfs_x : ∀ (x : Tk) (wy : World), (Instr.field 59 (.agg #[.int .i64 x.k, .string x.s, .int .i64 x.n, .int .i64 x.p]) 1).run Try.prog wy = .ok (.string x.s) wy := fun x wy => by kernel_rfl
      go_wp2_with fail
      refine region_last (fun y => y.cell? ⟨B1, 1, none⟩ = some (.slice (some ⟨G, 0, none⟩) ps.length kc)) (by kernel_rfl) (by kernel_rfl) (by kernel_rfl) (cell_stays bD x1) (fun hHeld => ?_)
      simp only [List.dropLast, List.length_cons, List.length_nil, Nat.reduceAdd]
      refine takeL (i := 0) (v := ?_) rfl (by kernel_rfl) (by kernel_rfl) (by kernel_rfl) (fun _ _ _ h => h) rfl (by assumption) ?_ ?_
      rotate_left
      · (intro wS hSw; (try dsimp only at hSw); go_simp; try with_reducible rfl)
      (try simp only [Act.put, List.setIfInBounds_toArray, List.set_cons_zero, List.set_cons_succ])
      refine takeL (i := 1) (v := ?_) rfl (by kernel_rfl) (by kernel_rfl) (by kernel_rfl) (fun _ _ _ h => h) rfl (by assumption) ?_ ?_
      rotate_left
      · (intro wS hSw; (try dsimp only at hSw); go_simp; try with_reducible rfl)
      (try simp only [Act.put, List.setIfInBounds_toArray, List.set_cons_zero, List.set_cons_succ])
      refine takeL (i := 2) (v := ?_) rfl (by kernel_rfl) (by kernel_rfl) (by kernel_rfl) (fun _ _ _ h => h) rfl (by assumption) ?_ ?_
      rotate_left
      · (intro wS hSw; (try dsimp only at hSw); go_simp; try with_reducible rfl)
      (try simp only [Act.put, List.setIfInBounds_toArray, List.set_cons_zero, List.set_cons_succ])
      refine stepL (i := 3) rfl (by kernel_rfl) (fun K hK => ?_)
      rw [if_pos (by rfl)]
      go_simp
      go_at_call 41
      refine (kind_s s10d 2 (by decide)).mono ?_
      rintro e w12 ⟨x, rfl, s12, v12, k12⟩
      have X12 := (hX10.of_block (w' := w10.drew) rfl).of_block (k12 B1 (by simp))
      have R12 := (hR10.of_block (w' := w10.drew) rfl).of_block (k12 B0 (by simp))
      have O12 := own_keep (w' := w12) (own_keep (w' := w10.drew) O10 fun g hg _ => rfl) fun g hg _ => k12 g (by rw [hLv g hg]; simp)
      obtain ⟨m1, hprm2⟩ := prm_more hprm.out hs10.out hT6 (by omega) v12
      have hfar := farR_take (T := T) (a := a) (ns := ns10) hi10
      have s12' := s12.map (fun _ => ())
      generalize (((PR.ok a (i10 + 1) ns10).then fun a i ns => (takeF T 2 i ns).then fun t i ns => PR.ok (a, t) i ns).then fun _ i ns => PR.ok () i ns) = rN at *
      change Hid _ at hprm2
      change Hid _ at hfar
      have x12 : w12.cell? ⟨B1, 1, none⟩ = some (.slice (some ⟨G, 0, none⟩) ps.length kc) := X12.cell (by omega)
      have hb12 := s12'.base_le
      clear hX10 hR10 O10 k12 s12 v12 hprm hm3 hs10 s10 s10d x1 bD
      (try simp only [])
      refine hK.out _ _ x12 (fun hHeld2 => ?_)
      clear hK K hHeld
      (try simp only [Act.put, List.setIfInBounds_toArray, List.set_cons_zero, List.set_cons_succ])
      refine takeL (i := 4) (v := ?_) rfl (by kernel_rfl) (by kernel_rfl) (by kernel_rfl) (fun _ _ _ h => h) rfl (by assumption) ?_ ?_
      rotate_left
      · (intro wS hSw; (try dsimp only at hSw); go_simp; try with_reducible rfl)
      (try simp only [Act.put, List.setIfInBounds_toArray, List.set_cons_zero, List.set_cons_succ])
      refine stepL (i := 5) rfl (by kernel_rfl) (fun K hK => ?_)
      rw [if_pos (by rfl)]
      go_simp
      have x12a : (w12.alloc (Obj.cells #[.string x.s] 9)).cell? ⟨B1, 1, none⟩ = some (.slice (some ⟨G, 0, none⟩) ps.length kc) := cell_same (Below.heap_alloc _ _ _ X12.lt) x12
      refine hK.out _ _ x12a (fun hHeld3 => ?_)
      clear hK K hHeld2
      (try simp only [Act.put, List.setIfInBounds_toArray, List.set_cons_zero, List.set_cons_succ])
      refine stepL (i := 6) rfl (by kernel_rfl) (fun K hK => ?_)
      refine step_append_lies _ (by rfl) _ _ _ (by rfl) base 9 iI _ 1 16 Try.underlying34 hII hzi0 hzi1 hzi2 rfl (by omega) (.slice (some ⟨G, 0, none⟩) ps.length kc) ps.length (scells ps) (by rfl) (O12.alloc _) ⟨w12.heap.size, 0, none⟩ 1 1 [.string x.s] (by rfl) (by rfl) (World.news_of_block (heap_alloc_new w12 _)) (by simp [Value.oneCell']) (by omega) (by unfold maxLen; omega) (by omega) (by show base ≤ (w12.alloc _).heap.size; simp; omega) (w12.heap.size + 1) (by show (w12.alloc _).heap.size = _; simp) ?_
      intro gg cap6 w13 hown hgrow hat hlt13
      have hLv' : ∀ g, (Value.slice (some ⟨G, 0, none⟩) ps.length kc).ownBlock = some g → g ∈ [G, B1, B0] := fun g hg => by rw [hLv g hg]; simp
      have hgg : gg < w13.heap.size := (own_lt hown rfl).2
      obtain ⟨s13, k13⟩ := SAt.grownR s12' O12 hLv' hgg hgrow hat
      have hGB : B1 < gg := by
        rcases hat with e | e
        · have := hLv gg e; omega
        · have := X12.lt; omega
      have X13 := X12.of_block (k13 B1 (by simp) (fun e => by have := hLv B1 e; omega))
      have R13 := R12.of_block (k13 B0 (by simp) (fun e => by have := hLv B0 e; omega))
      have x13 : w13.cell? ⟨B1, 1, none⟩ = some (.slice (some ⟨G, 0, none⟩) ps.length kc) := X13.cell (by omega)
      have xf13 : w13.frozen? ⟨B1, 1, none⟩ = false := X13.frozen 1
      refine hK.out _ _ x13 (fun hHeld4 => ?_)
      clear hK K hHeld3
      (try simp only [Act.put, List.setIfInBounds_toArray, List.set_cons_zero, List.set_cons_succ])
      refine takeL (i := 7) (v := ?_) rfl (by kernel_rfl) (by kernel_rfl) (by kernel_rfl) (fun _ _ _ h => h) rfl (by assumption) ?_ ?_
      rotate_left
      · (intro wS hSw; (try dsimp only at hSw); go_simp; try with_reducible rfl)
      (try simp only [Act.put, List.setIfInBounds_toArray, List.set_cons_zero, List.set_cons_succ])
      refine wpAnyH_done (by kernel_rfl) ?_ _
      refine lastL (n := 8) rfl rfl ?_
      go_simp
      have s14 := ((s13.setOwn hbw (g := B1) (o := 1) (by simp) (.slice (some ⟨gg, 0, none⟩) (ps.length + 1) cap6)).sub (L' := [gg, B1, B0]) (fun g hg => by simp at hg ⊢; omega)).less (ad' := 4) (sl' := 4) (by omega) (by omega)
      have X14 := X13.set1 (.slice (some ⟨gg, 0, none⟩) (ps.length + 1) cap6)
      have R14 := R13.setOther (a := ⟨B1, 1, none⟩) (by show B0 ≠ B1; omega) (.slice (some ⟨gg, 0, none⟩) (ps.length + 1) cap6)
      have O14 : (w13.setCell ⟨B1, 1, none⟩ (.slice (some ⟨gg, 0, none⟩) (ps.length + 1) cap6)).ownsRow base 9 1 (.slice (some ⟨gg, 0, none⟩) (ps ++ [x.s]).length cap6) (ps ++ [x.s]).length (scells (ps ++ [x.s])) := by
        rw [scells_snoc, List.length_append]
        refine own_keep hown fun g hg _ => Below.heap_setCell _ _ _ _ ?_
        have hg' : some gg = some g := hg
        injection hg' with hg'
        show g ≠ B1
        omega
      have hp := s14.far
      change Hid _ at hp
      clear hgrow hown hat hHeld4 x12a x12 x13 s13 k13 X13 R13 X12 R12 O12 s12'
      generalize w13.setCell ⟨B1, 1, none⟩ (.slice (some ⟨gg, 0, none⟩) (ps.length + 1) cap6) = w14 at *
      go_wp2
      go_roundw
      case rel => exact ⟨m1, ps ++ [x.s], rN, gg, cap6, s14, hGB, by simpa using X14, R14, O14, hprm2⟩
      case measure => rw [hpo.out, hp.out]; exact hfar.out
    · have X10 := hX.of_block (k10 B1 (by simp))
      have R10 := hR.of_block (k10 B0 (by simp))
      have O10 := own_keep (w' := w10) hO fun g hg _ => k10 g (by rw [hLv g hg]; simp)
      have hres2 : Hid (TOP = _) := prm_end hprm.out hn10
      clear hn10 hprm hX hR hO hS k10
      go_wp2_with fail
      refine (want_s hT s10 ask_shut).mono ?_
      rintro e w11 ⟨rfl, s11, k11⟩
      have X11 := X10.of_block (k11 B1 (by simp))
      have R11 := R10.of_block (k11 B0 (by simp))
      have O11 := own_keep (w' := w11) O10 fun g hg _ => k11 g (by rw [hLv g hg]; simp)
      clear X10 R10 O10 k11 s10
      go_wp2_with fail
      refine (part_s s11 _ (fun i ns => blockG T (fns T n) 0 i ns) (fun w i nv q h hi => hBl w i 0 nv q h (by omega)) (fun w i h => sblock_bad h)).mono ?_
      rintro e w9 ⟨z, rfl, s9, v9, k9⟩
      have R9 := R11.of_block (k9 B0 (by simp))
      have X9 := X11.of_block (k9 B1 (by simp))
      have O9 := own_keep (w' := w9) O11 fun g hg _ => k9 g (by rw [hLv g hg]; simp)
      have x0 : w9.cell? ⟨B1, 0, none⟩ = some (.string t.s) := X9.cell (by omega)
      have x1 : w9.cell? ⟨B1, 1, none⟩ = some (.slice (some ⟨G, 0, none⟩) ps.length kc) := X9.cell (by omega)
      have x2 : w9.cell? ⟨B1, 2, none⟩ = some (.int .i64 0) := X9.cell (by omega)
      have xf : ∀ j, w9.frozen? ⟨B1, j, none⟩ = false := fun j => X9.frozen j
      have r0 : w9.cell? ⟨B0, 0, none⟩ = some (.string ⟨#[]⟩) := R9.cell (by omega)
      have r1 : w9.cell? ⟨B0, 1, none⟩ = some (.slice none 0 0) := R9.cell (by omega)
      have r2 : w9.cell? ⟨B0, 2, none⟩ = some (.int .i64 0) := R9.cell (by omega)
      have rf : ∀ j, w9.frozen? ⟨B0, j, none⟩ = false := fun j => R9.frozen j
      have hne : B1 ≠ B0 := by omega
      have hne' : B0 ≠ B1 := by omega
      clear R9 X9 R11 X11 k9 s11 O11
      go_wp2
      refine bodyPost_ret (v := .agg #[.string t.s, .slice (some ⟨G, 0, none⟩) ps.length kc, .int .i64 z]) (by simp [results, Try.results18, go_sem, r0, r1, r2]) rfl ?_
      have O9' : ∀ (a : Addr) (u : Value) (x : World), a.block ≠ G → x.ownsRow base 9 1 (.slice (some ⟨G, 0, none⟩) ps.length kc) ps.length (scells ps) → (x.setCell a u).ownsRow base 9 1 (.slice (some ⟨G, 0, none⟩) ps.length kc) ps.length (scells ps) := fun a u x ha hx => own_keep hx fun g hg _ => Below.heap_setCell _ _ _ _ (by rw [hLv g hg]; exact fun e => ha e.symm)
      refine proc_done (((((s9.setOwn hbw (g := B1) (by simp) _).setOwn hbw (g := B0) (by simp) _).setOwn hbw (g := B0) (by simp) _).setOwn hbw (g := B0) (by simp) _)) v9 ?_ ?_ (fun g hg => by rw [hLv g hg]; simp) ?_
      · rw [hres2.out]
        simp only [PR.then_ok, PR.then_assoc]
      · exact O9' _ _ _ (by show B0 ≠ G; omega) (O9' _ _ _ (by show B0 ≠ G; omega) (O9' _ _ _ (by show B0 ≠ G; omega) (O9' _ _ _ (by show B1 ≠ G; omega) O9)))
      · omega

end Go.Proofs.Ytkdlgglikhbnkac
