/- The reader puts a node. -/
import Derived.Test.YtkdlgglikhbnkacPRd2
namespace Go.Proofs.Ytkdlgglikhbnkac
open Go.ChangeShapes Go.WideShapes Go.ChangeAt Go.RowKit
set_option linter.unusedVariables false
set_option maxRecDepth 100000
attribute [local go_sem ↓] Go.wp_at_zero Go.wp_at_succ

theorem infoNd : (Try.prog.info? 33).map (fun i => (i.zero, i.size, i.bytes)) = some (some (.agg #[.int .i64 0, .string ⟨#[]⟩, .int .i64 0, .slice none 0 0]), 4, 56) := by kernel_rfl

/-- What putting may turn. -/
structure Fr (rb : Nat) (w : World) (nv : Value) (w' : World) (nv' : Value) : Prop where
  os : w'.os = w.os
  tape : w'.tape = w.tape
  output : w'.output = w.output
  size : w.heap.size ≤ w'.heap.size
  block : ∀ g, g < w.heap.size → g ≠ rb → nv.ownBlock ≠ some g → w'.heap[g]? = w.heap[g]?
  ownv : ∀ g, nv'.ownBlock = some g → nv.ownBlock = some g ∨ w.heap.size ≤ g

theorem Mv.put {rb : Nat} {a w w' : World} {na nv nv' lv : Value} {qa q : List Qn} {c : Nd} (h : Mv rb a na qa w nv q) (k : Fr rb w nv w' nv') (hl : ∀ g, lv.ownBlock = some g → a.heap.size ≤ g) : Mv rb a na qa w' nv' (q ++ [(c, lv)]) := by
  have hz := h.size
  refine ⟨k.os.trans h.os, k.tape.trans h.tape, k.output.trans h.output, Nat.le_trans h.size k.size, fun g hg hr hn => ?_, fun g hg => ?_, fun x hx g hg => ?_⟩
  · rw [k.block g (by omega) hr (fun e => by rcases h.ownv g e with e | e; exact hn e; omega), h.block g hg hr hn]
  · rcases k.ownv g hg with e | e
    · exact h.ownv g e
    · exact .inr (by omega)
  · by_cases hxl : x < q.length
    · rw [qnAt_snoc_lt _ _ hxl] at hg
      exact h.kids x hxl g hg
    · have : x = q.length := by simp at hx; omega
      subst this
      rw [qnAt_snoc_eq] at hg
      exact .inr (hl g hg)

set_option maxHeartbeats 2000000 in
theorem put_any {base rb : Nat} {T : List Tk} {wv : Value} {en : Nat} {w : World} {i d : Nat} {nv : Value} {q : List Qn} (h : Rd base rb T wv en w i d nv q) (c : Nd) (a : Option Addr) (cap : Nat)
    (hl : w.ownsRow base 3 1 (.slice a c.kids.length cap) c.kids.length (icells c.kids))
    (hlg : ∀ g, (Value.slice a c.kids.length cap).ownBlock = some g → g ≠ rb ∧ nv.ownBlock ≠ some g ∧ ∀ j, j < q.length → (qnAt q j).2.ownBlock ≠ some g) (hroom : q.length + 1 ≤ i) :
    Calls Try.prog 68 #[.pointer (some ⟨rb, 0, none⟩), .agg #[.int .i64 c.k, .string c.s, .int .i64 c.n, .slice a c.kids.length cap]] w fun e w' => e = .returned (.int .i64 (q.length : Int)) ∧ ∃ nv', Rd base rb T wv en w' i d nv' (q ++ [(c, .slice a c.kids.length cap)]) ∧ Fr rb w nv w' nv' := by
  obtain ⟨i0, hI, hz0, hz1, hz2⟩ := info_parts infoNd
  have hrb := h.row.lt
  have hbl := h.base_le
  have hT6 : T.length ≤ 6000 := by obtain ⟨_, _, _, h, _⟩ := h.words; exact h
  have hi := h.hi
  obtain ⟨na, nc, hnv⟩ := own_slice h.own.row
  have bA : Below w.heap.size w (w.alloc (Obj.cells #[.int .i64 c.k, .string c.s, .int .i64 c.n, .slice a c.kids.length cap] 33)) := (Below.refl _ _).alloc (Nat.le_refl _) _
  have hA := h.stays bA
  obtain ⟨_, _, _, _, c4⟩ := hA.cells
  have f4 := hA.row.frozen 4
  have y0 : (w.alloc (Obj.cells #[.int .i64 c.k, .string c.s, .int .i64 c.n, .slice a c.kids.length cap] 33)).cell? ⟨w.heap.size, 0, none⟩ = some (.int .i64 c.k) := by simp [go_sem]
  have y1 : (w.alloc (Obj.cells #[.int .i64 c.k, .string c.s, .int .i64 c.n, .slice a c.kids.length cap] 33)).cell? ⟨w.heap.size, 1, none⟩ = some (.string c.s) := by simp [go_sem]
  have y2 : (w.alloc (Obj.cells #[.int .i64 c.k, .string c.s, .int .i64 c.n, .slice a c.kids.length cap] 33)).cell? ⟨w.heap.size, 2, none⟩ = some (.int .i64 c.n) := by simp [go_sem]
  have y3 : (w.alloc (Obj.cells #[.int .i64 c.k, .string c.s, .int .i64 c.n, .slice a c.kids.length cap] 33)).cell? ⟨w.heap.size, 3, none⟩ = some (.slice a c.kids.length cap) := by simp [go_sem]
  subst hnv
  go_enter Try.func68, Try.ntmps68
  go_wp2_with fail
  have hzA : (w.alloc (Obj.cells #[.int .i64 c.k, .string c.s, .int .i64 c.n, .slice a c.kids.length cap] 33)).heap.size ≤ w.heap.size + 1 := by simp
  have hzB : w.heap.size + 1 ≤ (w.alloc (Obj.cells #[.int .i64 c.k, .string c.s, .int .i64 c.n, .slice a c.kids.length cap] 33)).heap.size := by simp
  generalize (w.alloc (Obj.cells #[.int .i64 c.k, .string c.s, .int .i64 c.n, .slice a c.kids.length cap] 33)) = wo at *
  have S0 : ∀ x, Below wo.heap.size wo x → x.cell? ⟨rb, 4, none⟩ = some (.slice na q.length nc) ∧ x.cell? ⟨w.heap.size, 0, none⟩ = some (.int .i64 c.k) ∧ x.cell? ⟨w.heap.size, 1, none⟩ = some (.string c.s) ∧ x.cell? ⟨w.heap.size, 2, none⟩ = some (.int .i64 c.n) ∧ x.cell? ⟨w.heap.size, 3, none⟩ = some (.slice a c.kids.length cap) := fun x hx => ⟨cell_stays hx c4, cell_stays hx y0, cell_stays hx y1, cell_stays hx y2, cell_stays hx y3⟩
  have bD := (Below.refl wo.heap.size wo).drew
  refine region_last (fun x => x.cell? ⟨rb, 4, none⟩ = some (.slice na q.length nc) ∧ x.cell? ⟨w.heap.size, 0, none⟩ = some (.int .i64 c.k) ∧ x.cell? ⟨w.heap.size, 1, none⟩ = some (.string c.s) ∧ x.cell? ⟨w.heap.size, 2, none⟩ = some (.int .i64 c.n) ∧ x.cell? ⟨w.heap.size, 3, none⟩ = some (.slice a c.kids.length cap)) (by kernel_rfl) (by kernel_rfl) (by kernel_rfl) (S0 _ bD) (fun hHeld => ?_)
  simp only [List.dropLast, List.length_cons, List.length_nil, Nat.reduceAdd]
  refine takeL (i := 0) (v := ?_) rfl (by kernel_rfl) (by kernel_rfl) (by kernel_rfl) (fun _ _ _ h => h) rfl (by assumption) ?_ ?_
  rotate_left
  · (intro wS hSw; (try dsimp only at hSw); go_simp; try with_reducible rfl)
  (try simp only [Act.put, List.setIfInBounds_toArray, List.set_cons_zero, List.set_cons_succ])
  refine takeL (i := 1) (v := ?_) rfl (by kernel_rfl) (by kernel_rfl) (by kernel_rfl) (fun _ _ _ h => h) rfl (by assumption) ?_ ?_
  rotate_left
  · (intro wS hSw; (try dsimp only at hSw); go_simp; try with_reducible rfl)
  (try simp only [Act.put, List.setIfInBounds_toArray, List.set_cons_zero, List.set_cons_succ])
  refine takeL (i := 2) (v := ?_) rfl (by kernel_rfl) (by kernel_rfl) (by kernel_rfl) (fun _ _ _ h => h) rfl (by assumption) ?_ ?_
  rotate_left
  · (intro wS hSw; (try dsimp only at hSw); go_simp; try with_reducible rfl)
  (try simp only [Act.put, List.setIfInBounds_toArray, List.set_cons_zero, List.set_cons_succ])
  refine takeL (i := 3) (v := ?_) rfl (by kernel_rfl) (by kernel_rfl) (by kernel_rfl) (fun _ _ _ h => h) rfl (by assumption) ?_ ?_
  rotate_left
  · (intro wS hSw; (try dsimp only at hSw); go_simp; try with_reducible rfl)
  (try simp only [Act.put, List.setIfInBounds_toArray, List.set_cons_zero, List.set_cons_succ])
  refine takeL (i := 4) (v := ?_) rfl (by kernel_rfl) (by kernel_rfl) (by kernel_rfl) (fun _ _ _ h => h) rfl (by assumption) ?_ ?_
  rotate_left
  · (intro wS hSw; (try dsimp only at hSw); go_simp; try with_reducible rfl)
  (try simp only [Act.put, List.setIfInBounds_toArray, List.set_cons_zero, List.set_cons_succ])
  refine takeL (i := 5) (v := ?_) rfl (by kernel_rfl) (by kernel_rfl) (by kernel_rfl) (fun _ _ _ h => h) rfl (by assumption) ?_ ?_
  rotate_left
  · (intro wS hSw; (try dsimp only at hSw); go_simp; try with_reducible rfl)
  (try simp only [Act.put, List.setIfInBounds_toArray, List.set_cons_zero, List.set_cons_succ])
  refine stepL (i := 6) rfl (by kernel_rfl) (fun K hK => ?_)
  rw [if_pos (by rfl)]
  go_simp
  have bB : Below wo.heap.size wo (wo.alloc (Obj.cells #[.int .i64 c.k, .string c.s, .int .i64 c.n, .slice a c.kids.length cap] 33)).drew := ((Below.refl wo.heap.size wo).alloc (Nat.le_refl _) _).drew
  refine hK.out _ _ (S0 _ bB) (fun hHeld2 => ?_)
  clear hK K hHeld
  (try simp only [Act.put, List.setIfInBounds_toArray, List.set_cons_zero, List.set_cons_succ])
  refine stepL (i := 7) rfl (by kernel_rfl) (fun K hK => ?_)
  refine step_append_lies _ (by rfl) _ _ _ (by rfl) base 33 i0 _ 4 56 Try.underlying24 hI hz0 hz1 hz2 rfl (by omega) (.slice na q.length nc) q.length (ncells q) (by rfl) (own_keep hA.own.row fun g hg hgl => bB.block g hgl) ⟨wo.heap.size, 0, none⟩ 1 1 [.int .i64 c.k, .string c.s, .int .i64 c.n, .slice a c.kids.length cap] (by rfl) (by rfl) (World.news_of_block (heap_alloc_new wo _)) (by simp [Value.oneCell']) (by omega) (by unfold maxLen; omega) (by omega) (by show _ ≤ (wo.alloc _).heap.size; simp; omega) (wo.heap.size + 1) (by show (wo.alloc _).heap.size = _; simp) ?_
  intro g6 cap6 w6 hown6 hgrow6 hat6 hlt6
  have hnvl : ∀ g, (Value.slice na q.length nc).ownBlock = some g → base ≤ g ∧ g < w.heap.size := fun g hg => own_lt h.own.row hg
  have kb : ∀ g, g < wo.heap.size → (Value.slice na q.length nc).ownBlock ≠ some g → w6.heap[g]? = wo.heap[g]? := fun g hg hne => (hgrow6.block g (by show g < (wo.alloc _).heap.size; simp; omega) (fun e => hne e.symm)).trans (bB.block g hg)
  have z6 : wo.heap.size ≤ w6.heap.size := by have : (wo.alloc _).heap.size ≤ w6.heap.size := hgrow6.size; simp at this; omega
  have hoth : ∀ {p : Addr} {u : Value}, wo.cell? p = some u → (Value.slice na q.length nc).ownBlock ≠ some p.block → w6.cell? p = some u := fun {p} {u} hca hne => by
    rw [World.cell?_of_block (kb p.block (cell_lt hca) hne)]; exact hca
  have hnw : ∀ o, (Value.slice na q.length nc).ownBlock ≠ some (Addr.block ⟨w.heap.size, o, none⟩) := fun o e => by have := (hnvl _ e).2; simp at this
  have SS : w6.cell? ⟨rb, 4, none⟩ = some (.slice na q.length nc) ∧ w6.cell? ⟨w.heap.size, 0, none⟩ = some (.int .i64 c.k) ∧ w6.cell? ⟨w.heap.size, 1, none⟩ = some (.string c.s) ∧ w6.cell? ⟨w.heap.size, 2, none⟩ = some (.int .i64 c.n) ∧ w6.cell? ⟨w.heap.size, 3, none⟩ = some (.slice a c.kids.length cap) :=
    ⟨hoth c4 h.nvb, hoth y0 (hnw 0), hoth y1 (hnw 1), hoth y2 (hnw 2), hoth y3 (hnw 3)⟩
  have f6 : w6.frozen? ⟨rb, 4, none⟩ = false := by rw [World.frozen?_of_block (kb rb (cell_lt c4) h.nvb)]; exact f4
  have c6 := SS.1
  refine hK.out _ _ SS (fun hHeld3 => ?_)
  clear hK K hHeld2
  (try simp only [Act.put, List.setIfInBounds_toArray, List.set_cons_zero, List.set_cons_succ])
  refine takeL (i := 8) (v := ?_) rfl (by kernel_rfl) (by kernel_rfl) (by kernel_rfl) (fun _ _ _ h => h) rfl (by assumption) ?_ ?_
  rotate_left
  · (intro wS hSw; (try dsimp only at hSw); go_simp; try with_reducible rfl)
  (try simp only [Act.put, List.setIfInBounds_toArray, List.set_cons_zero, List.set_cons_succ])
  refine takeL (i := 9) (v := ?_) rfl (by kernel_rfl) (by kernel_rfl) (by kernel_rfl) (fun _ _ _ h => h) rfl (by assumption) ?_ ?_
  rotate_left
  · (intro wS hSw; (try dsimp only at hSw); go_simp; try with_reducible rfl)
  (try simp only [Act.put, List.setIfInBounds_toArray, List.set_cons_zero, List.set_cons_succ])
  refine wpAnyH_done (by kernel_rfl) ?_ _
  refine lastL (n := 10) rfl rfl ?_
  clear hHeld3 S0 SS
  go_simp
  have hnb : (Value.slice (some ⟨g6, 0, none⟩) (q.length + 1) cap6).ownBlock ≠ some rb := fun e => by
    have e' : some g6 = some rb := e
    injection e' with e'
    subst e'
    rcases hat6 with e | e
    · exact h.nvb e
    · omega
  have hO6 : OwnN base w6 (.slice (some ⟨g6, 0, none⟩) (q.length + 1) cap6) (q ++ [(c, .slice a c.kids.length cap)]) :=
    hA.own.snoc (own_keep hl fun g hg hgl => bA.block g hgl) (fun g hg => (hlg g hg).2) hown6 kb (fun g hg => by
      have hg' : some g6 = some g := hg
      injection hg' with hg'
      subst hg'
      rcases hat6 with e | e
      · exact .inl e
      · exact .inr (by omega))
  have hk7 : ∀ g, g ≠ rb → (w6.setCell ⟨rb, 4, none⟩ (.slice (some ⟨g6, 0, none⟩) (q.length + 1) cap6)).heap[g]? = w6.heap[g]? := fun g hg => Below.heap_setCell _ _ _ _ hg
  have hz7 : (w6.setCell ⟨rb, 4, none⟩ (.slice (some ⟨g6, 0, none⟩) (q.length + 1) cap6)).heap.size = w6.heap.size := by simp [World.setCell]
  have hkib : ∀ k, k < (q ++ [((c, .slice a c.kids.length cap) : Qn)]).length → (qnAt (q ++ [(c, .slice a c.kids.length cap)]) k).2.ownBlock ≠ some rb := fun k hk => by
    by_cases hkl : k < q.length
    · rw [qnAt_snoc_lt _ _ hkl]; exact h.kib k hkl
    · have : k = q.length := by simp at hk; omega
      subst this
      rw [qnAt_snoc_eq]
      exact fun e => (hlg rb e).1 rfl
  have h7 : Rd base rb T wv en (w6.setCell ⟨rb, 4, none⟩ (.slice (some ⟨g6, 0, none⟩) (q.length + 1) cap6)) i d (.slice (some ⟨g6, 0, none⟩) (q.length + 1) cap6) (q ++ [(c, .slice a c.kids.length cap)]) := by
    refine ⟨((hA.row.of_block (kb rb (by omega) h.nvb)).set 4 _).congr (fun k hk => ?_), hA.words.keep (fun g hg hgl => ?_) (by rw [hz7]; exact z6), hO6.keep (fun g hg _ => hk7 g ?_), h.rb0, hnb, hkib, hi, h.hd, by simp; omega⟩
    · match k, hk with
      | 0, _ => rfl
      | 1, _ => rfl
      | 2, _ => rfl
      | 3, _ => rfl
      | 4, _ => rfl
    · rw [hk7 g (by have := h.rb0; omega), kb g hgl (fun e => by have := (hnvl g e).1; omega)]
    · rcases hg with hg | ⟨k, hk, hg⟩
      · exact fun e => hnb (by rw [← e]; exact hg)
      · exact fun e => hkib k hk (by rw [← e]; exact hg)
  have hF : Fr rb w (.slice na q.length nc) (w6.setCell ⟨rb, 4, none⟩ (.slice (some ⟨g6, 0, none⟩) (q.length + 1) cap6)) (.slice (some ⟨g6, 0, none⟩) (q.length + 1) cap6) := by
    refine ⟨?_, ?_, ?_, by rw [hz7]; omega, fun g hg hr hn => ?_, fun g hg => ?_⟩
    · exact hgrow6.os.trans bA.os
    · exact hgrow6.tape.trans bA.tape
    · exact hgrow6.output.trans bA.output
    · rw [hk7 g hr, kb g (by omega) hn, bA.block g hg]
    · have hg' : some g6 = some g := hg
      injection hg' with hg'
      subst hg'
      rcases hat6 with e | e
      · exact .inl e
      · exact .inr (by omega)
  clear hgrow6 hown6 hO6
  obtain ⟨_, _, _, _, d4⟩ := h7.cells
  have hq1 : IntKind.i64.wrap (((q.length + 1 : Nat) : Int) - 1) = (q.length : Int) := by rw [IntKind.wrap_i64]; omega
  generalize (w6.setCell ⟨rb, 4, none⟩ (.slice (some ⟨g6, 0, none⟩) (q.length + 1) cap6)) = w7 at *
  go_wp2
  go_ret
  exact ⟨by simp, _, h7, hF⟩

end Go.Proofs.Ytkdlgglikhbnkac
