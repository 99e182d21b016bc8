import Derived.Test.YtmecbppblbmchaaGreatDoorM2w
import Derived.Test.YtmecbppblbmchaaGreatDoorM4
import Derived.Test.YtmecbppblbmchaaGreatDoorL1Own
import Derived.Test.YtmecbppblbmchaaGreatDoorSpecInst0
import Derived.Deep.CutRange
/- The specification's l2own. -/
namespace Go.Proofs.YtmecbppblbmchaaGreatDoor
open Go.ChangeShapes Go.WideShapes Go.ChangeAt Go.RowKit Go.Sort
set_option linter.unusedVariables false
set_option maxRecDepth 100000
attribute [local go_sem ↓] Go.wp_at_zero Go.wp_at_succ

theorem rows_cells {lo hi : Nat} {w : World} {a : Option Addr} {cap : Nat} {l : List Rw} (h : RowsAt lo hi w (.slice a l.length cap) l) : CellsAt w a l.length (flat l) := fun hp => by
  obtain ⟨a', cap', e, hm, hc⟩ := h
  injection e with e1 e2 e3
  subst e1
  obtain ⟨b, off, rfl, _, _, hcc⟩ := hc hp
  exact ⟨b, off, rfl, by rw [flat_tri]; exact tri_cells hcc⟩
theorem flat_one' (l : List Rw) : ∀ u ∈ flat l, u.oneCell' = true := by rw [flat_tri]; exact tri_one fun i hi => ⟨rfl, rfl, rfl⟩
theorem build_mgrE (oa : Option Addr) (on oc : Nat) (c n : Int) (ea : Option Addr) (en ec : Nat) (w : World) : (Instr.build 36 #[(0, .agg #[.slice oa on oc]), (1, .int .i64 c), (2, .int .i64 n), (4, .slice ea en ec)]).run Tryz.prog w = .ok (.agg #[.slice oa on oc, .int .i64 c, .int .i64 n, .slice none 0 0, .slice ea en ec]) w := by kernel_rfl
theorem l2own_leaf {W w : World} {sA sB R gH cH : Nat} {ov : Value} {m : Md} (hS : OwnT sA sB w ov m.s) (hH : w.ownsRow W.heap.size 101 6 (.slice (some ⟨gH, 0, none⟩) m.h.length cH) m.h.length (hexa m.h)) (hR : RowOf w R 36 5 (bxf nilV 0 0 nilV nilV)) (t : Below W.heap.size W w)
    (h1 : W.heap.size ≤ sA) (h2 : sA ≤ sB) (h3 : sB ≤ w.heap.size) (h4 : W.heap.size ≤ R ∧ (R < sA ∨ sB ≤ R)) (h5 : gH < sA ∨ sB ≤ gH) (h6 : gH ≠ R) :
    ∃ R' sA sB ov' ve', Value.pointer (some ⟨R, 0, none⟩) = .pointer (some ⟨R', 0, none⟩) ∧ PtrM W.heap.size (((((w.setCell ⟨R, 0, none⟩ ov).setCell ⟨R, 1, none⟩ (.int .i64 m.c)).setCell ⟨R, 2, none⟩ (.int .i64 m.n)).setCell ⟨R, 3, none⟩ (.slice none 0 0)).setCell ⟨R, 4, none⟩ (.slice (some ⟨gH, 0, none⟩) m.h.length cH)) R' sA sB ov' nilV ve' { m with x := [] } (fun _ => nilV) ∧
      Below W.heap.size W (((((w.setCell ⟨R, 0, none⟩ ov).setCell ⟨R, 1, none⟩ (.int .i64 m.c)).setCell ⟨R, 2, none⟩ (.int .i64 m.n)).setCell ⟨R, 3, none⟩ (.slice none 0 0)).setCell ⟨R, 4, none⟩ (.slice (some ⟨gH, 0, none⟩) m.h.length cH)) := by
  have hz : (((((w.setCell ⟨R, 0, none⟩ ov).setCell ⟨R, 1, none⟩ (.int .i64 m.c)).setCell ⟨R, 2, none⟩ (.int .i64 m.n)).setCell ⟨R, 3, none⟩ (.slice none 0 0)).setCell ⟨R, 4, none⟩ (.slice (some ⟨gH, 0, none⟩) m.h.length cH)).heap.size = w.heap.size := by simp only [size_setCell]
  have hk : ∀ k, k ≠ R → (((((w.setCell ⟨R, 0, none⟩ ov).setCell ⟨R, 1, none⟩ (.int .i64 m.c)).setCell ⟨R, 2, none⟩ (.int .i64 m.n)).setCell ⟨R, 3, none⟩ (.slice none 0 0)).setCell ⟨R, 4, none⟩ (.slice (some ⟨gH, 0, none⟩) m.h.length cH)).heap[k]? = w.heap[k]? := fun k hk => by
    repeat rw [Below.heap_setCell _ _ _ _ (by exact hk)]
  refine ⟨R, sA, sB, ov, _, rfl, ⟨⟨hS.keep fun k a b _ => hk k (by omega), ⟨h1, h2, by rw [hz]; exact h3⟩, World.ownsRow_nil _ _ _ _, fun i hi => absurd hi (Nat.not_lt_zero _), owns_keepM hH fun g hg hl => hk g ((show g = gH by simpa [Value.ownBlock] using hg.symm) ▸ h6), ?_, ?_⟩, ?_, h4.1, h4.2, ?_⟩, ?_⟩
  · intro a ha g hg
    match a, ha with
    | 0, _ => simp [mv, nilV, Value.ownBlock] at hg
    | 1, _ =>
      have : g = gH := by simpa [mv, Value.ownBlock] using hg.symm
      omega
    | i + 2, hi => exact absurd hi (by simp)
  · intro a b ha hb hab g hg hg'
    match a, b, ha, hb with
    | 0, _, _, _ => simp [mv, nilV, Value.ownBlock] at hg
    | 1, 0, _, _ => simp [mv, nilV, Value.ownBlock] at hg'
    | 1, 1, _, _ => exact hab rfl
    | 1, i + 2, _, hi => exact absurd hi (by simp)
    | i + 2, _, hi, _ => exact absurd hi (by simp)
  · refine (((((hR.set 0 ov).set 1 (.int .i64 m.c)).set 2 (.int .i64 m.n)).set 3 (.slice none 0 0)).set 4 (.slice (some ⟨gH, 0, none⟩) m.h.length cH)).congr fun j hj => ?_
    match j, hj with
    | 0, _ => rfl
    | 1, _ => rfl
    | 2, _ => rfl
    | 3, _ => rfl
    | 4, _ => rfl
  · intro a ha hg
    match a, ha with
    | 0, _ => simp [mv, nilV, Value.ownBlock] at hg
    | 1, _ =>
      have : R = gH := by simpa [mv, Value.ownBlock] using hg.symm
      omega
    | i + 2, hi => exact absurd hi (by simp)
  · exact ((((t.setCell (p := ⟨R, 0, none⟩) h4.1 _).setCell (p := ⟨R, 1, none⟩) h4.1 _).setCell (p := ⟨R, 2, none⟩) h4.1 _).setCell (p := ⟨R, 3, none⟩) h4.1 _).setCell (p := ⟨R, 4, none⟩) h4.1 _

theorem own_append {base R sA sB : Nat} {wo w3 : World} {ov ve' : Value} {va : Option Addr} {k vc : Nat} {m : Md} {xt : List Td} {wv : Nat → Value} (P : PtrM base wo R sA sB ov (.slice va k vc) ve' { m with x := xt } wv) (hlk : xt.length = k) (hk : k ≤ 1048576) {ti' ts : Int} {tw : List Rw} {gu cu : Nat} (b2w : Below wo.heap.size wo w3) (hgu : wo.heap.size < gu) (hgl : gu < w3.heap.size) (hown3 : w3.ownsRow base 111 3 (.slice (some ⟨gu, 0, none⟩) tw.length cu) tw.length (flat tw))
    {ops : Array Oper} {rest : List Oper} {o : Oper} {a : Act} {Q : Exit → Act → World → Prop} (hgd : o.guard = none) (s x : Operand) (ho : o.op = .call { callee := .builtin .append, args := #[s, x], argTypes := #[33, 33] }) (hs : a.eval s = .slice va k vc) (hx : a.eval x = .slice (some ⟨w3.heap.size, 0, none⟩) 1 1)
    (h : ∀ gg cap w5, PtrM base (w5.setCell ⟨R, 3, none⟩ (.slice (some ⟨gg, 0, none⟩) (k + 1) cap)) R sA sB ov (.slice (some ⟨gg, 0, none⟩) (k + 1) cap) ve' { m with x := xt ++ [⟨ti', ts, tw⟩] } (wsnocU k wv (.slice (some ⟨gu, 0, none⟩) tw.length cu)) → Below base wo (w5.setCell ⟨R, 3, none⟩ (.slice (some ⟨gg, 0, none⟩) (k + 1) cap)) → w5.cell? ⟨R, 3, none⟩ = some (.slice va k vc) → w5.frozen? ⟨R, 3, none⟩ = false → wpList Tryz.prog ops Q rest (a.put o.dst (.slice (some ⟨gg, 0, none⟩) (k + 1) cap)) w5) :
    wpList Tryz.prog ops Q (o :: rest) a ((w3.setCell ⟨wo.heap.size, 2, none⟩ (.slice (some ⟨gu, 0, none⟩) tw.length cu)).alloc (Obj.cells #[.int .i64 ti', .int .i64 ts, .slice (some ⟨gu, 0, none⟩) tw.length cu] 97)) := by
  subst hlk
  obtain ⟨tx, hIx, hx0, hx1, hx2⟩ := info_parts infoTx
  have hRl := P.box.lt
  have hRb := P.base
  have hz3 := b2w.size
  have b3w := (b2w.setCell (p := ⟨wo.heap.size, 2, none⟩) (Nat.le_refl _) (.slice (some ⟨gu, 0, none⟩) tw.length cu)).alloc (by simp only [size_setCell]; exact b2w.size) (Obj.cells #[.int .i64 ti', .int .i64 ts, .slice (some ⟨gu, 0, none⟩) tw.length cu] 97)
  have hX1 := owns_keepM P.own.x fun g hg hl => b3w.block g hl
  have hzz : ((w3.setCell ⟨wo.heap.size, 2, none⟩ (.slice (some ⟨gu, 0, none⟩) tw.length cu)).alloc (Obj.cells #[.int .i64 ti', .int .i64 ts, .slice (some ⟨gu, 0, none⟩) tw.length cu] 97)).heap.size = w3.heap.size + 1 := by simp
  have hU : ((w3.setCell ⟨wo.heap.size, 2, none⟩ (.slice (some ⟨gu, 0, none⟩) tw.length cu)).alloc (Obj.cells #[.int .i64 ti', .int .i64 ts, .slice (some ⟨gu, 0, none⟩) tw.length cu] 97)).ownsRow base 111 3 (.slice (some ⟨gu, 0, none⟩) tw.length cu) tw.length (flat tw) := owns_keepM hown3 fun g hg hl => by
    have hgg : g = gu := by simpa [Value.ownBlock] using hg.symm
    subst hgg
    rw [(below_alM (w3.setCell ⟨wo.heap.size, 2, none⟩ (.slice (some ⟨g, 0, none⟩) tw.length cu)) _).block g (by simp only [size_setCell]; exact hl), Below.heap_setCell _ _ _ _ (by simp; omega)]
  have hN := newsM (w3.setCell ⟨wo.heap.size, 2, none⟩ (.slice (some ⟨gu, 0, none⟩) tw.length cu)) [.int .i64 ti', .int .i64 ts, .slice (some ⟨gu, 0, none⟩) tw.length cu] 97
  simp only [size_setCell] at hN
  refine wpList_append_lies _ hgd s x 33 ho base 97 tx _ 3 40 Tryz.underlying33 hIx hx0 hx1 hx2 rfl (by decide) (.slice va xt.length vc) xt.length (txc xt wv) hs hX1 ⟨w3.heap.size, 0, none⟩ 1 1 [.int .i64 ti', .int .i64 ts, .slice (some ⟨gu, 0, none⟩) tw.length cu] hx rfl hN (by intro u hu; simp at hu; rcases hu with rfl | rfl | rfl <;> rfl) (by omega) (by unfold maxLen; omega) (by omega) (by omega) _ rfl ?_
  intro gg cap w5 hown5 hgr5 hat5 hlt5
  have hnR := P.apart 0 (by omega)
  have R5 := P.box.of_block (show w5.heap[R]? = wo.heap[R]? from (hgr5.block R (by omega) (fun e => hnR e.symm)).trans (b3w.block R hRl))
  have q3 := R5.cell (show 3 < 5 by omega)
  obtain ⟨P6, b6⟩ := P.pushTxW b3w hgr5 (gg := gg) (cap := cap) hown5 (by rcases hat5 with e | e; exact .inl e; exact .inr (by omega)) hU (fun g hg => by have hgg : g = gu := (by simpa [Value.ownBlock] using hg.symm); omega)
  exact h gg cap w5 P6 b6 q3 (R5.frozen 3)
theorem boxed_keep0 (w : World) (R : Nat) (u0 u1 u2 u3 u4 : Value) : w.heap.size ≤ (((((w.setCell ⟨R, 0, none⟩ u0).setCell ⟨R, 1, none⟩ u1).setCell ⟨R, 2, none⟩ u2).setCell ⟨R, 3, none⟩ u3).setCell ⟨R, 4, none⟩ u4).heap.size ∧
    ∀ k, k ≠ R → k < w.heap.size → (((((w.setCell ⟨R, 0, none⟩ u0).setCell ⟨R, 1, none⟩ u1).setCell ⟨R, 2, none⟩ u2).setCell ⟨R, 3, none⟩ u3).setCell ⟨R, 4, none⟩ u4).heap[k]? = w.heap[k]? := by
  refine ⟨by simp only [size_setCell]; omega, fun k hk hl => ?_⟩
  repeat rw [Below.heap_setCell _ _ _ _ (by exact hk)]
set_option maxHeartbeats 8000000 in
theorem l2own_any (vs vt ve : Value) (m : Md) (w : World) {lo hi : Nat} (h : MAt lo hi w vs vt ve m) (hn : SmallM m) (hok : mgrOk m) :
    Calls Tryz.prog 28 #[.agg #[vs, .int .i64 m.c, .int .i64 m.n, vt, ve]] w fun e w' => ∃ v, e = .returned v ∧ AnsM w.heap.size w' v m ∧ Below w.heap.size w w' := by
  obtain ⟨a1, cap1, hv1⟩ : ∃ a cap, vs = .slice a m.s.length cap := by obtain ⟨a, cap, h1, _⟩ := h.s; exact ⟨a, cap, h1⟩
  obtain ⟨a2, cap2, hv2⟩ : ∃ a cap, vt = .slice a m.x.length cap := by obtain ⟨a, cap, h1, _⟩ := h.x; exact ⟨a, cap, h1⟩
  obtain ⟨a3, cap3, hv3⟩ : ∃ a cap, ve = .slice a m.h.length cap := by obtain ⟨a, cap, h1, _⟩ := h.h; exact ⟨a, cap, h1⟩
  subst hv1 hv2 hv3
  have b0 : Below w.heap.size w ((w.alloc (Obj.cells #[Value.slice a1 m.s.length cap1, .int .i64 m.c, .int .i64 m.n, Value.slice a2 m.x.length cap2, Value.slice a3 m.h.length cap3] 36)).alloc (Obj.cells #[Value.slice none 0 0, .int .i64 0, .int .i64 0, Value.slice none 0 0, Value.slice none 0 0] 36)) := ((Below.refl _ _).alloc (Nat.le_refl _) _).alloc (by simp) _
  have r0 := zeroBox w (Obj.cells #[Value.slice a1 m.s.length cap1, .int .i64 m.c, .int .i64 m.n, Value.slice a2 m.x.length cap2, Value.slice a3 m.h.length cap3] 36)
  have hz0 : ((w.alloc (Obj.cells #[Value.slice a1 m.s.length cap1, .int .i64 m.c, .int .i64 m.n, Value.slice a2 m.x.length cap2, Value.slice a3 m.h.length cap3] 36)).alloc (Obj.cells #[Value.slice none 0 0, .int .i64 0, .int .i64 0, Value.slice none 0 0, Value.slice none 0 0] 36)).heap.size = w.heap.size + 2 := by simp
  have x0 : ((w.alloc (Obj.cells #[Value.slice a1 m.s.length cap1, .int .i64 m.c, .int .i64 m.n, Value.slice a2 m.x.length cap2, Value.slice a3 m.h.length cap3] 36)).alloc (Obj.cells #[Value.slice none 0 0, .int .i64 0, .int .i64 0, Value.slice none 0 0, Value.slice none 0 0] 36)).cell? ⟨w.heap.size, 0, none⟩ = some (.slice a1 m.s.length cap1) := by simp [go_sem]
  have x1 : ((w.alloc (Obj.cells #[Value.slice a1 m.s.length cap1, .int .i64 m.c, .int .i64 m.n, Value.slice a2 m.x.length cap2, Value.slice a3 m.h.length cap3] 36)).alloc (Obj.cells #[Value.slice none 0 0, .int .i64 0, .int .i64 0, Value.slice none 0 0, Value.slice none 0 0] 36)).cell? ⟨w.heap.size, 1, none⟩ = some (.int .i64 m.c) := by simp [go_sem]
  have x2 : ((w.alloc (Obj.cells #[Value.slice a1 m.s.length cap1, .int .i64 m.c, .int .i64 m.n, Value.slice a2 m.x.length cap2, Value.slice a3 m.h.length cap3] 36)).alloc (Obj.cells #[Value.slice none 0 0, .int .i64 0, .int .i64 0, Value.slice none 0 0, Value.slice none 0 0] 36)).cell? ⟨w.heap.size, 2, none⟩ = some (.int .i64 m.n) := by simp [go_sem]
  have x3 : ((w.alloc (Obj.cells #[Value.slice a1 m.s.length cap1, .int .i64 m.c, .int .i64 m.n, Value.slice a2 m.x.length cap2, Value.slice a3 m.h.length cap3] 36)).alloc (Obj.cells #[Value.slice none 0 0, .int .i64 0, .int .i64 0, Value.slice none 0 0, Value.slice none 0 0] 36)).cell? ⟨w.heap.size, 3, none⟩ = some (.slice a2 m.x.length cap2) := by simp [go_sem]
  have x4 : ((w.alloc (Obj.cells #[Value.slice a1 m.s.length cap1, .int .i64 m.c, .int .i64 m.n, Value.slice a2 m.x.length cap2, Value.slice a3 m.h.length cap3] 36)).alloc (Obj.cells #[Value.slice none 0 0, .int .i64 0, .int .i64 0, Value.slice none 0 0, Value.slice none 0 0] 36)).cell? ⟨w.heap.size, 4, none⟩ = some (.slice a3 m.h.length cap3) := by simp [go_sem]
  go_enter Tryz.func28, Tryz.ntmps28
  go_wp2_with fail
  generalize (w.alloc (Obj.cells #[Value.slice a1 m.s.length cap1, .int .i64 m.c, .int .i64 m.n, Value.slice a2 m.x.length cap2, Value.slice a3 m.h.length cap3] 36)).alloc (Obj.cells #[Value.slice none 0 0, .int .i64 0, .int .i64 0, Value.slice none 0 0, Value.slice none 0 0] 36) = W at *
  have HC : Hid (∀ i, i < m.s.length → 0 < (cAt m.s i).l.length ∧ (cAt m.s i).l.length ≤ 1048576) := fun i hi => ⟨by have := (hok.1.2 i hi).2.2.1; omega, hn.s.2 i hi⟩
  obtain ⟨ti, hI, hz0, hz1, hz2⟩ := info_parts infoEv
  have hEv : SrcAt W a3 m.h.length (hexa m.h) := ((h.h.stays b0).cells).src (hexa_length _)
  have hhl := hn.h
  go_cut [3] from 6 to 17 (fun t3 wc => ∃ R sA sB ov ve', t3 = .pointer (some ⟨R, 0, none⟩) ∧ PtrM W.heap.size wc R sA sB ov nilV ve' { m with x := [] } (fun _ => nilV) ∧ Below W.heap.size W wc)
  case first =>
    have TA : ∀ x, Below W.heap.size W x → Below w.heap.size w x ∧ x.cell? ⟨w.heap.size, 0, none⟩ = some (.slice a1 m.s.length cap1) ∧ x.cell? ⟨w.heap.size, 1, none⟩ = some (.int .i64 m.c) ∧ x.cell? ⟨w.heap.size, 2, none⟩ = some (.int .i64 m.n) ∧ x.cell? ⟨w.heap.size, 3, none⟩ = some (.slice a2 m.x.length cap2) ∧ x.cell? ⟨w.heap.size, 4, none⟩ = some (.slice a3 m.h.length cap3) := fun x hx => ⟨b0.trans (hx.mono b0.size), cell_stays hx x0, cell_stays hx x1, cell_stays hx x2, cell_stays hx x3, cell_stays hx x4⟩
    refine region_last (fun x => Below w.heap.size w x ∧ x.cell? ⟨w.heap.size, 0, none⟩ = some (.slice a1 m.s.length cap1) ∧ x.cell? ⟨w.heap.size, 1, none⟩ = some (.int .i64 m.c) ∧ x.cell? ⟨w.heap.size, 2, none⟩ = some (.int .i64 m.n) ∧ x.cell? ⟨w.heap.size, 3, none⟩ = some (.slice a2 m.x.length cap2) ∧ x.cell? ⟨w.heap.size, 4, none⟩ = some (.slice a3 m.h.length cap3)) (by kernel_rfl) (by kernel_rfl) (by kernel_rfl) (TA _ (Below.refl _ _).drew) (fun hHeld0 => ?_)
    simp only [List.dropLast, List.length_cons, List.length_nil, Nat.reduceAdd]
    refine takeL (i := 0) (v := ?_) rfl (by kernel_rfl) (by kernel_rfl) (by kernel_rfl) (fun _ _ _ h => h) rfl (by assumption) ?_ ?_
    rotate_left
    · (intro wS hSw; (try dsimp only at hSw); go_simp; try with_reducible rfl)
    (try simp only [Act.put, List.setIfInBounds_toArray, List.set_cons_zero, List.set_cons_succ])
    refine takeL (i := 1) (v := ?_) rfl (by kernel_rfl) (by kernel_rfl) (by kernel_rfl) (fun _ _ _ h => h) rfl (by assumption) ?_ ?_
    rotate_left
    · (intro wS hSw; (try dsimp only at hSw); go_simp; try with_reducible rfl)
    (try simp only [Act.put, List.setIfInBounds_toArray, List.set_cons_zero, List.set_cons_succ])
    refine takeL (i := 3) (v := ?_) rfl (by kernel_rfl) (by kernel_rfl) (by kernel_rfl) (fun _ _ _ h => h) rfl (by assumption) ?_ ?_
    rotate_left
    · (intro wS hSw; (try dsimp only at hSw); go_simp; try with_reducible rfl)
    (try simp only [Act.put, List.setIfInBounds_toArray, List.set_cons_zero, List.set_cons_succ])
    refine takeL (i := 4) (v := ?_) rfl (by kernel_rfl) (by kernel_rfl) (by kernel_rfl) (fun _ _ _ h => h) rfl (by assumption) ?_ ?_
    rotate_left
    · (intro wS hSw; (try dsimp only at hSw); go_simp; try with_reducible rfl)
    (try simp only [Act.put, List.setIfInBounds_toArray, List.set_cons_zero, List.set_cons_succ])
    refine takeL (i := 5) (v := ?_) rfl (by kernel_rfl) (by kernel_rfl) (by kernel_rfl) (fun _ _ _ h => h) rfl (by assumption) ?_ ?_
    rotate_left
    · (intro wS hSw; (try dsimp only at hSw); go_simp; try with_reducible rfl)
    (try simp only [Act.put, List.setIfInBounds_toArray, List.set_cons_zero, List.set_cons_succ])
    refine takeL (i := 6) (v := ?_) rfl (by kernel_rfl) (by kernel_rfl) (by kernel_rfl) (fun _ _ _ h => h) rfl (by assumption) ?_ ?_
    rotate_left
    · (intro wS hSw; (try dsimp only at hSw); go_simp; try with_reducible rfl)
    (try simp only [Act.put, List.setIfInBounds_toArray, List.set_cons_zero, List.set_cons_succ])
    refine takeL (i := 8) (v := ?_) rfl (by kernel_rfl) (by kernel_rfl) (by kernel_rfl) (fun _ _ _ h => h) rfl (by assumption) ?_ ?_
    rotate_left
    · (intro wS hSw; (try dsimp only at hSw); go_simp; try with_reducible rfl)
    (try simp only [Act.put, List.setIfInBounds_toArray, List.set_cons_zero, List.set_cons_succ])
    refine takeL (i := 9) (v := ?_) rfl (by kernel_rfl) (by kernel_rfl) (by kernel_rfl) (fun _ _ _ h => h) rfl (by assumption) ?_ ?_
    rotate_left
    · (intro wS hSw; (try dsimp only at hSw); go_simp; try with_reducible rfl)
    (try simp only [Act.put, List.setIfInBounds_toArray, List.set_cons_zero, List.set_cons_succ])
    have t0 : Below W.heap.size W W.drew := (Below.refl _ _).drew
    have zD1 : W.drew.heap.size ≤ W.heap.size := Nat.le_refl _
    have zD2 : W.heap.size ≤ W.drew.heap.size := Nat.le_refl _
    generalize W.drew = WD at *
    refine step3L (i := 2) (j := 7) (k := 12) rfl rfl rfl (by kernel_rfl) (fun K hK => ?_) (fun K hK => ?_) (fun K hK => ?_)
    · skip
      rw [if_pos (by rfl)]
      go_simp
      refine (l1own_any _ m.s _ (h.s.stays (TA _ t0).1) HC.out hn.s.1).mono ?_
      rintro e w1 ⟨ov, q, rfl, hO, hq, hb4⟩
      have hS : OwnT WD.heap.size w1.heap.size w1 ov m.s := by
        have h1 := OwnQ.ownS (Nat.le_refl _) hO (fun i hi => by rw [← qchs_at q hi, hq]; exact (HC.out i (by rw [← hq, qchs_length]; exact hi)).1)
        rw [hq] at h1
        exact OwnT.wide (show OwnT (WD.heap.size + 3) w1.heap.size w1 ov m.s from h1) (by omega) (Nat.le_refl _)
      obtain ⟨oa, on, oc, rfl⟩ : ∃ a n c, ov = .slice a n c := by
        rcases hS with ⟨rfl, _⟩ | ⟨b, Bs, cap, rfl, _⟩
        · exact ⟨_, _, _, rfl⟩
        · exact ⟨_, _, _, rfl⟩
      clear hO hq
      have t2 := t0.trans (hb4.mono t0.size)
      have zw1 := hb4.size
      refine hK.out _ _ (TA _ t2) (fun hHeld3 => ?_)
      clear hK K hHeld0
      (try simp only [Act.put, List.setIfInBounds_toArray, List.set_cons_zero, List.set_cons_succ])
      obtain ⟨sA, sB, hA1, hA2, hB1, hB2, hS⟩ : ∃ sA sB, WD.heap.size ≤ sA ∧ sA ≤ WD.heap.size ∧ w1.heap.size ≤ sB ∧ sB ≤ w1.heap.size ∧ OwnT sA sB w1 (.slice oa on oc) m.s := ⟨_, _, Nat.le_refl _, Nat.le_refl _, Nat.le_refl _, Nat.le_refl _, hS⟩
      refine step2L (i := 7) (j := 12) rfl rfl (by kernel_rfl) (fun K hK => ?_) (fun K hK => ?_)
      · skip
        rw [if_pos (by rfl)]
        go_simp
        have hb8 := below_alM w1 (Obj.cells #[] 101)
        have t6 := t2.trans (hb8.mono t2.size)
        have zw5 : (w1.alloc (Obj.cells #[] 101)).heap.size ≤ w1.heap.size + 1 := by simp
        have zzw5 : w1.heap.size + 1 ≤ (w1.alloc (Obj.cells #[] 101)).heap.size := by simp
        replace hS := hS.stays hb8
        have hE : (w1.alloc (Obj.cells #[] 101)).ownsRow W.heap.size 101 6 (.slice (some ⟨w1.heap.size, 0, none⟩) 0 0) 0 [] := owns_new (cs := []) (n := 0) (Deep.blk_alloc_new _ _) rfl (Nat.zero_le _) t2.size
        refine hK.out _ _ (TA _ t6) (fun hHeld7 => ?_)
        clear hK K hHeld3
        (try simp only [Act.put, List.setIfInBounds_toArray, List.set_cons_zero, List.set_cons_succ])
        generalize w1.alloc (Obj.cells #[] 101) = w5 at *
        refine step2L (i := 10) (j := 12) rfl rfl (by kernel_rfl) (fun K hK => ?_) (fun K hK => ?_)
        · skip
          refine step_append_src (by rfl) _ _ _ (by rfl) W.heap.size 101 ti _ 6 48 Tryz.underlying34 hI hz0 hz1 hz2 rfl (by omega) _ 0 0 [] (by rfl) hE a3 m.h.length cap3 (hexa m.h) (by rfl) (hexa_length _) (hEv.stays t6) (hexa_one _) (by unfold maxLen; omega) (by omega) t6.size ?_
          intro gH cH w9 hH hgr hat hltH
          simp only [Nat.zero_add, List.nil_append] at hH ⊢
          have hgE := (owns_ltM hE rfl)
          have zw9 := hgr.size
          have t10 : Below W.heap.size W w9 := t6.grown hgr t6.size (fun k hk => by cases hk; exact hgE.1)
          refine hK.out _ _ (TA _ t10) (fun hHeld11 => ?_)
          clear hK K hHeld7
          (try simp only [Act.put, List.setIfInBounds_toArray, List.set_cons_zero, List.set_cons_succ])
          replace hS := hS.keep (w' := w9) fun k h1 h2 h3 => hgr.block k h3 (fun ee => by injection ee with ee; omega)
          clear hgr hE
          have hbm := build_mgrE oa on oc m.c m.n (some ⟨gH, 0, none⟩) m.h.length cH
          refine takeL (i := 11) (v := ?_) rfl (by kernel_rfl) (by kernel_rfl) (by kernel_rfl) (fun _ _ _ h => h) rfl (by assumption) ?_ ?_
          rotate_left
          · (intro wS hSw; (try dsimp only at hSw); go_simp; try with_reducible rfl)
          (try simp only [Act.put, List.setIfInBounds_toArray, List.set_cons_zero, List.set_cons_succ])
          clear hbm
          refine stepL (i := 12) rfl (by kernel_rfl) (fun K hK => ?_)
          · skip
            rw [if_pos (by rfl)]
            go_simp
            have hb16 := below_alM w9 (Obj.cells #[Value.slice none 0 0, .int .i64 0, .int .i64 0, Value.slice none 0 0, Value.slice none 0 0] 36)
            have t14 := t10.trans (hb16.mono t10.size)
            have zw13 : (w9.alloc (Obj.cells #[Value.slice none 0 0, .int .i64 0, .int .i64 0, Value.slice none 0 0, Value.slice none 0 0] 36)).heap.size ≤ w9.heap.size + 1 := by simp
            have zzw13 : w9.heap.size + 1 ≤ (w9.alloc (Obj.cells #[Value.slice none 0 0, .int .i64 0, .int .i64 0, Value.slice none 0 0, Value.slice none 0 0] 36)).heap.size := by simp
            replace hH := owns_keepM hH fun g hg hl => hb16.block g hl
            replace hS := hS.stays hb16
            have hR : RowOf (w9.alloc (Obj.cells #[Value.slice none 0 0, .int .i64 0, .int .i64 0, Value.slice none 0 0, Value.slice none 0 0] 36)) w9.heap.size 36 5 (bxf nilV 0 0 nilV nilV) := ⟨_, Deep.blk_alloc_new _ _, by simp, fun j hj => by
              match j, hj with
              | 0, _ => rfl
              | 1, _ => rfl
              | 2, _ => rfl
              | 3, _ => rfl
              | 4, _ => rfl⟩
            refine hK.out _ _ (TA _ t14) (fun hHeld15 => ?_)
            clear hK K hHeld11
            (try simp only [Act.put, List.setIfInBounds_toArray, List.set_cons_zero, List.set_cons_succ])
            generalize w9.alloc (Obj.cells #[Value.slice none 0 0, .int .i64 0, .int .i64 0, Value.slice none 0 0, Value.slice none 0 0] 36) = w13 at *
            have c0 := hR.cell (show 0 < 5 by omega)
            have c1 := hR.cell (show 1 < 5 by omega)
            have c2 := hR.cell (show 2 < 5 by omega)
            have c3 := hR.cell (show 3 < 5 by omega)
            have c4 := hR.cell (show 4 < 5 by omega)
            have f0 := hR.frozen 0
            have f1 := hR.frozen 1
            have f2 := hR.frozen 2
            have f3 := hR.frozen 3
            have f4 := hR.frozen 4
            have hRl := hR.lt
            simp only [bxf] at c0 c1 c2 c3 c4
            refine wpAnyH_done (by kernel_rfl) ?_ _
            refine lastL (n := 13) rfl rfl ?_
            go_simp
            clear hHeld15
            go_wp2
            go_meet
            case rel => exact l2own_leaf hS hH hR t14 (by omega) (by omega) (by omega) (by omega) (by omega) (by omega)
        · skip
          rw [if_pos (by rfl)]
          go_simp
          have hb20 := below_alM w5 (Obj.cells #[Value.slice none 0 0, .int .i64 0, .int .i64 0, Value.slice none 0 0, Value.slice none 0 0] 36)
          have t18 := t6.trans (hb20.mono t6.size)
          have zw17 : (w5.alloc (Obj.cells #[Value.slice none 0 0, .int .i64 0, .int .i64 0, Value.slice none 0 0, Value.slice none 0 0] 36)).heap.size ≤ w5.heap.size + 1 := by simp
          have zzw17 : w5.heap.size + 1 ≤ (w5.alloc (Obj.cells #[Value.slice none 0 0, .int .i64 0, .int .i64 0, Value.slice none 0 0, Value.slice none 0 0] 36)).heap.size := by simp
          replace hE := owns_keepM hE fun g hg hl => hb20.block g hl
          replace hS := hS.stays hb20
          have hR : RowOf (w5.alloc (Obj.cells #[Value.slice none 0 0, .int .i64 0, .int .i64 0, Value.slice none 0 0, Value.slice none 0 0] 36)) w5.heap.size 36 5 (bxf nilV 0 0 nilV nilV) := ⟨_, Deep.blk_alloc_new _ _, by simp, fun j hj => by
            match j, hj with
            | 0, _ => rfl
            | 1, _ => rfl
            | 2, _ => rfl
            | 3, _ => rfl
            | 4, _ => rfl⟩
          refine hK.out _ _ (TA _ t18) (fun hHeld19 => ?_)
          clear hK K hHeld7
          (try simp only [Act.put, List.setIfInBounds_toArray, List.set_cons_zero, List.set_cons_succ])
          generalize w5.alloc (Obj.cells #[Value.slice none 0 0, .int .i64 0, .int .i64 0, Value.slice none 0 0, Value.slice none 0 0] 36) = w17 at *
          refine stepL (i := 10) rfl (by kernel_rfl) (fun K hK => ?_)
          · skip
            refine step_append_src (by rfl) _ _ _ (by rfl) W.heap.size 101 ti _ 6 48 Tryz.underlying34 hI hz0 hz1 hz2 rfl (by omega) _ 0 0 [] (by rfl) hE a3 m.h.length cap3 (hexa m.h) (by rfl) (hexa_length _) (hEv.stays t18) (hexa_one _) (by unfold maxLen; omega) (by omega) t18.size ?_
            intro gH cH w21 hH hgr hat hltH
            simp only [Nat.zero_add, List.nil_append] at hH ⊢
            have hgE := (owns_ltM hE rfl)
            have zw21 := hgr.size
            have t22 : Below W.heap.size W w21 := t18.grown hgr t18.size (fun k hk => by cases hk; exact hgE.1)
            refine hK.out _ _ (TA _ t22) (fun hHeld23 => ?_)
            clear hK K hHeld19
            (try simp only [Act.put, List.setIfInBounds_toArray, List.set_cons_zero, List.set_cons_succ])
            replace hS := hS.keep (w' := w21) fun k h1 h2 h3 => hgr.block k h3 (fun ee => by injection ee with ee; omega)
            have hRl := hR.lt
            replace hR := hR.of_block (hgr.block _ hR.lt (fun ee => by injection ee with ee; omega))
            clear hgr hE
            have hbm := build_mgrE oa on oc m.c m.n (some ⟨gH, 0, none⟩) m.h.length cH
            refine takeL (i := 11) (v := ?_) rfl (by kernel_rfl) (by kernel_rfl) (by kernel_rfl) (fun _ _ _ h => h) rfl (by assumption) ?_ ?_
            rotate_left
            · (intro wS hSw; (try dsimp only at hSw); go_simp; try with_reducible rfl)
            (try simp only [Act.put, List.setIfInBounds_toArray, List.set_cons_zero, List.set_cons_succ])
            clear hbm
            have c0 := hR.cell (show 0 < 5 by omega)
            have c1 := hR.cell (show 1 < 5 by omega)
            have c2 := hR.cell (show 2 < 5 by omega)
            have c3 := hR.cell (show 3 < 5 by omega)
            have c4 := hR.cell (show 4 < 5 by omega)
            have f0 := hR.frozen 0
            have f1 := hR.frozen 1
            have f2 := hR.frozen 2
            have f3 := hR.frozen 3
            have f4 := hR.frozen 4
            have hRl := hR.lt
            simp only [bxf] at c0 c1 c2 c3 c4
            refine wpAnyH_done (by kernel_rfl) ?_ _
            refine lastL (n := 13) rfl rfl ?_
            go_simp
            clear hHeld23
            go_wp2
            go_meet
            case rel => exact l2own_leaf hS hH hR t22 (by omega) (by omega) (by omega) (by omega) (by omega) (by omega)
      · skip
        rw [if_pos (by rfl)]
        go_simp
        have hb28 := below_alM w1 (Obj.cells #[Value.slice none 0 0, .int .i64 0, .int .i64 0, Value.slice none 0 0, Value.slice none 0 0] 36)
        have t26 := t2.trans (hb28.mono t2.size)
        have zw25 : (w1.alloc (Obj.cells #[Value.slice none 0 0, .int .i64 0, .int .i64 0, Value.slice none 0 0, Value.slice none 0 0] 36)).heap.size ≤ w1.heap.size + 1 := by simp
        have zzw25 : w1.heap.size + 1 ≤ (w1.alloc (Obj.cells #[Value.slice none 0 0, .int .i64 0, .int .i64 0, Value.slice none 0 0, Value.slice none 0 0] 36)).heap.size := by simp
        replace hS := hS.stays hb28
        have hR : RowOf (w1.alloc (Obj.cells #[Value.slice none 0 0, .int .i64 0, .int .i64 0, Value.slice none 0 0, Value.slice none 0 0] 36)) w1.heap.size 36 5 (bxf nilV 0 0 nilV nilV) := ⟨_, Deep.blk_alloc_new _ _, by simp, fun j hj => by
          match j, hj with
          | 0, _ => rfl
          | 1, _ => rfl
          | 2, _ => rfl
          | 3, _ => rfl
          | 4, _ => rfl⟩
        refine hK.out _ _ (TA _ t26) (fun hHeld27 => ?_)
        clear hK K hHeld3
        (try simp only [Act.put, List.setIfInBounds_toArray, List.set_cons_zero, List.set_cons_succ])
        generalize w1.alloc (Obj.cells #[Value.slice none 0 0, .int .i64 0, .int .i64 0, Value.slice none 0 0, Value.slice none 0 0] 36) = w25 at *
        refine stepL (i := 7) rfl (by kernel_rfl) (fun K hK => ?_)
        · skip
          rw [if_pos (by rfl)]
          go_simp
          have hb32 := below_alM w25 (Obj.cells #[] 101)
          have t30 := t26.trans (hb32.mono t26.size)
          have zw29 : (w25.alloc (Obj.cells #[] 101)).heap.size ≤ w25.heap.size + 1 := by simp
          have zzw29 : w25.heap.size + 1 ≤ (w25.alloc (Obj.cells #[] 101)).heap.size := by simp
          replace hR := hR.of_block (hb32.block _ hR.lt)
          replace hS := hS.stays hb32
          have hE : (w25.alloc (Obj.cells #[] 101)).ownsRow W.heap.size 101 6 (.slice (some ⟨w25.heap.size, 0, none⟩) 0 0) 0 [] := owns_new (cs := []) (n := 0) (Deep.blk_alloc_new _ _) rfl (Nat.zero_le _) t26.size
          refine hK.out _ _ (TA _ t30) (fun hHeld31 => ?_)
          clear hK K hHeld27
          (try simp only [Act.put, List.setIfInBounds_toArray, List.set_cons_zero, List.set_cons_succ])
          generalize w25.alloc (Obj.cells #[] 101) = w29 at *
          refine stepL (i := 10) rfl (by kernel_rfl) (fun K hK => ?_)
          · skip
            refine step_append_src (by rfl) _ _ _ (by rfl) W.heap.size 101 ti _ 6 48 Tryz.underlying34 hI hz0 hz1 hz2 rfl (by omega) _ 0 0 [] (by rfl) hE a3 m.h.length cap3 (hexa m.h) (by rfl) (hexa_length _) (hEv.stays t30) (hexa_one _) (by unfold maxLen; omega) (by omega) t30.size ?_
            intro gH cH w33 hH hgr hat hltH
            simp only [Nat.zero_add, List.nil_append] at hH ⊢
            have hgE := (owns_ltM hE rfl)
            have zw33 := hgr.size
            have t34 : Below W.heap.size W w33 := t30.grown hgr t30.size (fun k hk => by cases hk; exact hgE.1)
            refine hK.out _ _ (TA _ t34) (fun hHeld35 => ?_)
            clear hK K hHeld31
            (try simp only [Act.put, List.setIfInBounds_toArray, List.set_cons_zero, List.set_cons_succ])
            replace hS := hS.keep (w' := w33) fun k h1 h2 h3 => hgr.block k h3 (fun ee => by injection ee with ee; omega)
            have hRl := hR.lt
            replace hR := hR.of_block (hgr.block _ hR.lt (fun ee => by injection ee with ee; omega))
            clear hgr hE
            have hbm := build_mgrE oa on oc m.c m.n (some ⟨gH, 0, none⟩) m.h.length cH
            refine takeL (i := 11) (v := ?_) rfl (by kernel_rfl) (by kernel_rfl) (by kernel_rfl) (fun _ _ _ h => h) rfl (by assumption) ?_ ?_
            rotate_left
            · (intro wS hSw; (try dsimp only at hSw); go_simp; try with_reducible rfl)
            (try simp only [Act.put, List.setIfInBounds_toArray, List.set_cons_zero, List.set_cons_succ])
            clear hbm
            have c0 := hR.cell (show 0 < 5 by omega)
            have c1 := hR.cell (show 1 < 5 by omega)
            have c2 := hR.cell (show 2 < 5 by omega)
            have c3 := hR.cell (show 3 < 5 by omega)
            have c4 := hR.cell (show 4 < 5 by omega)
            have f0 := hR.frozen 0
            have f1 := hR.frozen 1
            have f2 := hR.frozen 2
            have f3 := hR.frozen 3
            have f4 := hR.frozen 4
            have hRl := hR.lt
            simp only [bxf] at c0 c1 c2 c3 c4
            refine wpAnyH_done (by kernel_rfl) ?_ _
            refine lastL (n := 13) rfl rfl ?_
            go_simp
            clear hHeld35
            go_wp2
            go_meet
            case rel => exact l2own_leaf hS hH hR t34 (by omega) (by omega) (by omega) (by omega) (by omega) (by omega)
    · skip
      rw [if_pos (by rfl)]
      go_simp
      have hb40 := below_alM WD (Obj.cells #[] 101)
      have t38 := t0.trans (hb40.mono t0.size)
      have zw37 : (WD.alloc (Obj.cells #[] 101)).heap.size ≤ WD.heap.size + 1 := by simp
      have zzw37 : WD.heap.size + 1 ≤ (WD.alloc (Obj.cells #[] 101)).heap.size := by simp
      have hE : (WD.alloc (Obj.cells #[] 101)).ownsRow W.heap.size 101 6 (.slice (some ⟨WD.heap.size, 0, none⟩) 0 0) 0 [] := owns_new (cs := []) (n := 0) (Deep.blk_alloc_new _ _) rfl (Nat.zero_le _) t0.size
      refine hK.out _ _ (TA _ t38) (fun hHeld39 => ?_)
      clear hK K hHeld0
      (try simp only [Act.put, List.setIfInBounds_toArray, List.set_cons_zero, List.set_cons_succ])
      generalize WD.alloc (Obj.cells #[] 101) = w37 at *
      refine step2L (i := 2) (j := 12) rfl rfl (by kernel_rfl) (fun K hK => ?_) (fun K hK => ?_)
      · skip
        rw [if_pos (by rfl)]
        go_simp
        refine (l1own_any _ m.s _ (h.s.stays (TA _ t38).1) HC.out hn.s.1).mono ?_
        rintro e w41 ⟨ov, q, rfl, hO, hq, hb44⟩
        have hS : OwnT w37.heap.size w41.heap.size w41 ov m.s := by
          have h1 := OwnQ.ownS (Nat.le_refl _) hO (fun i hi => by rw [← qchs_at q hi, hq]; exact (HC.out i (by rw [← hq, qchs_length]; exact hi)).1)
          rw [hq] at h1
          exact OwnT.wide (show OwnT (w37.heap.size + 3) w41.heap.size w41 ov m.s from h1) (by omega) (Nat.le_refl _)
        obtain ⟨oa, on, oc, rfl⟩ : ∃ a n c, ov = .slice a n c := by
          rcases hS with ⟨rfl, _⟩ | ⟨b, Bs, cap, rfl, _⟩
          · exact ⟨_, _, _, rfl⟩
          · exact ⟨_, _, _, rfl⟩
        clear hO hq
        have t42 := t38.trans (hb44.mono t38.size)
        have zw41 := hb44.size
        refine hK.out _ _ (TA _ t42) (fun hHeld43 => ?_)
        clear hK K hHeld39
        (try simp only [Act.put, List.setIfInBounds_toArray, List.set_cons_zero, List.set_cons_succ])
        replace hE := owns_keepM hE fun g hg hl => hb44.block g hl
        obtain ⟨sA, sB, hA1, hA2, hB1, hB2, hS⟩ : ∃ sA sB, w37.heap.size ≤ sA ∧ sA ≤ w37.heap.size ∧ w41.heap.size ≤ sB ∧ sB ≤ w41.heap.size ∧ OwnT sA sB w41 (.slice oa on oc) m.s := ⟨_, _, Nat.le_refl _, Nat.le_refl _, Nat.le_refl _, Nat.le_refl _, hS⟩
        refine step2L (i := 10) (j := 12) rfl rfl (by kernel_rfl) (fun K hK => ?_) (fun K hK => ?_)
        · skip
          refine step_append_src (by rfl) _ _ _ (by rfl) W.heap.size 101 ti _ 6 48 Tryz.underlying34 hI hz0 hz1 hz2 rfl (by omega) _ 0 0 [] (by rfl) hE a3 m.h.length cap3 (hexa m.h) (by rfl) (hexa_length _) (hEv.stays t42) (hexa_one _) (by unfold maxLen; omega) (by omega) t42.size ?_
          intro gH cH w45 hH hgr hat hltH
          simp only [Nat.zero_add, List.nil_append] at hH ⊢
          have hgE := (owns_ltM hE rfl)
          have zw45 := hgr.size
          have t46 : Below W.heap.size W w45 := t42.grown hgr t42.size (fun k hk => by cases hk; exact hgE.1)
          refine hK.out _ _ (TA _ t46) (fun hHeld47 => ?_)
          clear hK K hHeld43
          (try simp only [Act.put, List.setIfInBounds_toArray, List.set_cons_zero, List.set_cons_succ])
          replace hS := hS.keep (w' := w45) fun k h1 h2 h3 => hgr.block k h3 (fun ee => by injection ee with ee; omega)
          clear hgr hE
          have hbm := build_mgrE oa on oc m.c m.n (some ⟨gH, 0, none⟩) m.h.length cH
          refine takeL (i := 11) (v := ?_) rfl (by kernel_rfl) (by kernel_rfl) (by kernel_rfl) (fun _ _ _ h => h) rfl (by assumption) ?_ ?_
          rotate_left
          · (intro wS hSw; (try dsimp only at hSw); go_simp; try with_reducible rfl)
          (try simp only [Act.put, List.setIfInBounds_toArray, List.set_cons_zero, List.set_cons_succ])
          clear hbm
          refine stepL (i := 12) rfl (by kernel_rfl) (fun K hK => ?_)
          · skip
            rw [if_pos (by rfl)]
            go_simp
            have hb52 := below_alM w45 (Obj.cells #[Value.slice none 0 0, .int .i64 0, .int .i64 0, Value.slice none 0 0, Value.slice none 0 0] 36)
            have t50 := t46.trans (hb52.mono t46.size)
            have zw49 : (w45.alloc (Obj.cells #[Value.slice none 0 0, .int .i64 0, .int .i64 0, Value.slice none 0 0, Value.slice none 0 0] 36)).heap.size ≤ w45.heap.size + 1 := by simp
            have zzw49 : w45.heap.size + 1 ≤ (w45.alloc (Obj.cells #[Value.slice none 0 0, .int .i64 0, .int .i64 0, Value.slice none 0 0, Value.slice none 0 0] 36)).heap.size := by simp
            replace hH := owns_keepM hH fun g hg hl => hb52.block g hl
            replace hS := hS.stays hb52
            have hR : RowOf (w45.alloc (Obj.cells #[Value.slice none 0 0, .int .i64 0, .int .i64 0, Value.slice none 0 0, Value.slice none 0 0] 36)) w45.heap.size 36 5 (bxf nilV 0 0 nilV nilV) := ⟨_, Deep.blk_alloc_new _ _, by simp, fun j hj => by
              match j, hj with
              | 0, _ => rfl
              | 1, _ => rfl
              | 2, _ => rfl
              | 3, _ => rfl
              | 4, _ => rfl⟩
            refine hK.out _ _ (TA _ t50) (fun hHeld51 => ?_)
            clear hK K hHeld47
            (try simp only [Act.put, List.setIfInBounds_toArray, List.set_cons_zero, List.set_cons_succ])
            generalize w45.alloc (Obj.cells #[Value.slice none 0 0, .int .i64 0, .int .i64 0, Value.slice none 0 0, Value.slice none 0 0] 36) = w49 at *
            have c0 := hR.cell (show 0 < 5 by omega)
            have c1 := hR.cell (show 1 < 5 by omega)
            have c2 := hR.cell (show 2 < 5 by omega)
            have c3 := hR.cell (show 3 < 5 by omega)
            have c4 := hR.cell (show 4 < 5 by omega)
            have f0 := hR.frozen 0
            have f1 := hR.frozen 1
            have f2 := hR.frozen 2
            have f3 := hR.frozen 3
            have f4 := hR.frozen 4
            have hRl := hR.lt
            simp only [bxf] at c0 c1 c2 c3 c4
            refine wpAnyH_done (by kernel_rfl) ?_ _
            refine lastL (n := 13) rfl rfl ?_
            go_simp
            clear hHeld51
            go_wp2
            go_meet
            case rel => exact l2own_leaf hS hH hR t50 (by omega) (by omega) (by omega) (by omega) (by omega) (by omega)
        · skip
          rw [if_pos (by rfl)]
          go_simp
          have hb56 := below_alM w41 (Obj.cells #[Value.slice none 0 0, .int .i64 0, .int .i64 0, Value.slice none 0 0, Value.slice none 0 0] 36)
          have t54 := t42.trans (hb56.mono t42.size)
          have zw53 : (w41.alloc (Obj.cells #[Value.slice none 0 0, .int .i64 0, .int .i64 0, Value.slice none 0 0, Value.slice none 0 0] 36)).heap.size ≤ w41.heap.size + 1 := by simp
          have zzw53 : w41.heap.size + 1 ≤ (w41.alloc (Obj.cells #[Value.slice none 0 0, .int .i64 0, .int .i64 0, Value.slice none 0 0, Value.slice none 0 0] 36)).heap.size := by simp
          replace hE := owns_keepM hE fun g hg hl => hb56.block g hl
          replace hS := hS.stays hb56
          have hR : RowOf (w41.alloc (Obj.cells #[Value.slice none 0 0, .int .i64 0, .int .i64 0, Value.slice none 0 0, Value.slice none 0 0] 36)) w41.heap.size 36 5 (bxf nilV 0 0 nilV nilV) := ⟨_, Deep.blk_alloc_new _ _, by simp, fun j hj => by
            match j, hj with
            | 0, _ => rfl
            | 1, _ => rfl
            | 2, _ => rfl
            | 3, _ => rfl
            | 4, _ => rfl⟩
          refine hK.out _ _ (TA _ t54) (fun hHeld55 => ?_)
          clear hK K hHeld43
          (try simp only [Act.put, List.setIfInBounds_toArray, List.set_cons_zero, List.set_cons_succ])
          generalize w41.alloc (Obj.cells #[Value.slice none 0 0, .int .i64 0, .int .i64 0, Value.slice none 0 0, Value.slice none 0 0] 36) = w53 at *
          refine stepL (i := 10) rfl (by kernel_rfl) (fun K hK => ?_)
          · skip
            refine step_append_src (by rfl) _ _ _ (by rfl) W.heap.size 101 ti _ 6 48 Tryz.underlying34 hI hz0 hz1 hz2 rfl (by omega) _ 0 0 [] (by rfl) hE a3 m.h.length cap3 (hexa m.h) (by rfl) (hexa_length _) (hEv.stays t54) (hexa_one _) (by unfold maxLen; omega) (by omega) t54.size ?_
            intro gH cH w57 hH hgr hat hltH
            simp only [Nat.zero_add, List.nil_append] at hH ⊢
            have hgE := (owns_ltM hE rfl)
            have zw57 := hgr.size
            have t58 : Below W.heap.size W w57 := t54.grown hgr t54.size (fun k hk => by cases hk; exact hgE.1)
            refine hK.out _ _ (TA _ t58) (fun hHeld59 => ?_)
            clear hK K hHeld55
            (try simp only [Act.put, List.setIfInBounds_toArray, List.set_cons_zero, List.set_cons_succ])
            replace hS := hS.keep (w' := w57) fun k h1 h2 h3 => hgr.block k h3 (fun ee => by injection ee with ee; omega)
            have hRl := hR.lt
            replace hR := hR.of_block (hgr.block _ hR.lt (fun ee => by injection ee with ee; omega))
            clear hgr hE
            have hbm := build_mgrE oa on oc m.c m.n (some ⟨gH, 0, none⟩) m.h.length cH
            refine takeL (i := 11) (v := ?_) rfl (by kernel_rfl) (by kernel_rfl) (by kernel_rfl) (fun _ _ _ h => h) rfl (by assumption) ?_ ?_
            rotate_left
            · (intro wS hSw; (try dsimp only at hSw); go_simp; try with_reducible rfl)
            (try simp only [Act.put, List.setIfInBounds_toArray, List.set_cons_zero, List.set_cons_succ])
            clear hbm
            have c0 := hR.cell (show 0 < 5 by omega)
            have c1 := hR.cell (show 1 < 5 by omega)
            have c2 := hR.cell (show 2 < 5 by omega)
            have c3 := hR.cell (show 3 < 5 by omega)
            have c4 := hR.cell (show 4 < 5 by omega)
            have f0 := hR.frozen 0
            have f1 := hR.frozen 1
            have f2 := hR.frozen 2
            have f3 := hR.frozen 3
            have f4 := hR.frozen 4
            have hRl := hR.lt
            simp only [bxf] at c0 c1 c2 c3 c4
            refine wpAnyH_done (by kernel_rfl) ?_ _
            refine lastL (n := 13) rfl rfl ?_
            go_simp
            clear hHeld59
            go_wp2
            go_meet
            case rel => exact l2own_leaf hS hH hR t58 (by omega) (by omega) (by omega) (by omega) (by omega) (by omega)
      · skip
        rw [if_pos (by rfl)]
        go_simp
        have hb64 := below_alM w37 (Obj.cells #[Value.slice none 0 0, .int .i64 0, .int .i64 0, Value.slice none 0 0, Value.slice none 0 0] 36)
        have t62 := t38.trans (hb64.mono t38.size)
        have zw61 : (w37.alloc (Obj.cells #[Value.slice none 0 0, .int .i64 0, .int .i64 0, Value.slice none 0 0, Value.slice none 0 0] 36)).heap.size ≤ w37.heap.size + 1 := by simp
        have zzw61 : w37.heap.size + 1 ≤ (w37.alloc (Obj.cells #[Value.slice none 0 0, .int .i64 0, .int .i64 0, Value.slice none 0 0, Value.slice none 0 0] 36)).heap.size := by simp
        replace hE := owns_keepM hE fun g hg hl => hb64.block g hl
        have hR : RowOf (w37.alloc (Obj.cells #[Value.slice none 0 0, .int .i64 0, .int .i64 0, Value.slice none 0 0, Value.slice none 0 0] 36)) w37.heap.size 36 5 (bxf nilV 0 0 nilV nilV) := ⟨_, Deep.blk_alloc_new _ _, by simp, fun j hj => by
          match j, hj with
          | 0, _ => rfl
          | 1, _ => rfl
          | 2, _ => rfl
          | 3, _ => rfl
          | 4, _ => rfl⟩
        refine hK.out _ _ (TA _ t62) (fun hHeld63 => ?_)
        clear hK K hHeld39
        (try simp only [Act.put, List.setIfInBounds_toArray, List.set_cons_zero, List.set_cons_succ])
        generalize w37.alloc (Obj.cells #[Value.slice none 0 0, .int .i64 0, .int .i64 0, Value.slice none 0 0, Value.slice none 0 0] 36) = w61 at *
        refine stepL (i := 2) rfl (by kernel_rfl) (fun K hK => ?_)
        · skip
          rw [if_pos (by rfl)]
          go_simp
          refine (l1own_any _ m.s _ (h.s.stays (TA _ t62).1) HC.out hn.s.1).mono ?_
          rintro e w65 ⟨ov, q, rfl, hO, hq, hb68⟩
          have hS : OwnT w61.heap.size w65.heap.size w65 ov m.s := by
            have h1 := OwnQ.ownS (Nat.le_refl _) hO (fun i hi => by rw [← qchs_at q hi, hq]; exact (HC.out i (by rw [← hq, qchs_length]; exact hi)).1)
            rw [hq] at h1
            exact OwnT.wide (show OwnT (w61.heap.size + 3) w65.heap.size w65 ov m.s from h1) (by omega) (Nat.le_refl _)
          obtain ⟨oa, on, oc, rfl⟩ : ∃ a n c, ov = .slice a n c := by
            rcases hS with ⟨rfl, _⟩ | ⟨b, Bs, cap, rfl, _⟩
            · exact ⟨_, _, _, rfl⟩
            · exact ⟨_, _, _, rfl⟩
          clear hO hq
          have t66 := t62.trans (hb68.mono t62.size)
          have zw65 := hb68.size
          refine hK.out _ _ (TA _ t66) (fun hHeld67 => ?_)
          clear hK K hHeld63
          (try simp only [Act.put, List.setIfInBounds_toArray, List.set_cons_zero, List.set_cons_succ])
          replace hE := owns_keepM hE fun g hg hl => hb68.block g hl
          replace hR := hR.of_block (hb68.block _ hR.lt)
          obtain ⟨sA, sB, hA1, hA2, hB1, hB2, hS⟩ : ∃ sA sB, w61.heap.size ≤ sA ∧ sA ≤ w61.heap.size ∧ w65.heap.size ≤ sB ∧ sB ≤ w65.heap.size ∧ OwnT sA sB w65 (.slice oa on oc) m.s := ⟨_, _, Nat.le_refl _, Nat.le_refl _, Nat.le_refl _, Nat.le_refl _, hS⟩
          refine stepL (i := 10) rfl (by kernel_rfl) (fun K hK => ?_)
          · skip
            refine step_append_src (by rfl) _ _ _ (by rfl) W.heap.size 101 ti _ 6 48 Tryz.underlying34 hI hz0 hz1 hz2 rfl (by omega) _ 0 0 [] (by rfl) hE a3 m.h.length cap3 (hexa m.h) (by rfl) (hexa_length _) (hEv.stays t66) (hexa_one _) (by unfold maxLen; omega) (by omega) t66.size ?_
            intro gH cH w69 hH hgr hat hltH
            simp only [Nat.zero_add, List.nil_append] at hH ⊢
            have hgE := (owns_ltM hE rfl)
            have zw69 := hgr.size
            have t70 : Below W.heap.size W w69 := t66.grown hgr t66.size (fun k hk => by cases hk; exact hgE.1)
            refine hK.out _ _ (TA _ t70) (fun hHeld71 => ?_)
            clear hK K hHeld67
            (try simp only [Act.put, List.setIfInBounds_toArray, List.set_cons_zero, List.set_cons_succ])
            replace hS := hS.keep (w' := w69) fun k h1 h2 h3 => hgr.block k h3 (fun ee => by injection ee with ee; omega)
            have hRl := hR.lt
            replace hR := hR.of_block (hgr.block _ hR.lt (fun ee => by injection ee with ee; omega))
            clear hgr hE
            have hbm := build_mgrE oa on oc m.c m.n (some ⟨gH, 0, none⟩) m.h.length cH
            refine takeL (i := 11) (v := ?_) rfl (by kernel_rfl) (by kernel_rfl) (by kernel_rfl) (fun _ _ _ h => h) rfl (by assumption) ?_ ?_
            rotate_left
            · (intro wS hSw; (try dsimp only at hSw); go_simp; try with_reducible rfl)
            (try simp only [Act.put, List.setIfInBounds_toArray, List.set_cons_zero, List.set_cons_succ])
            clear hbm
            have c0 := hR.cell (show 0 < 5 by omega)
            have c1 := hR.cell (show 1 < 5 by omega)
            have c2 := hR.cell (show 2 < 5 by omega)
            have c3 := hR.cell (show 3 < 5 by omega)
            have c4 := hR.cell (show 4 < 5 by omega)
            have f0 := hR.frozen 0
            have f1 := hR.frozen 1
            have f2 := hR.frozen 2
            have f3 := hR.frozen 3
            have f4 := hR.frozen 4
            have hRl := hR.lt
            simp only [bxf] at c0 c1 c2 c3 c4
            refine wpAnyH_done (by kernel_rfl) ?_ _
            refine lastL (n := 13) rfl rfl ?_
            go_simp
            clear hHeld71
            go_wp2
            go_meet
            case rel => exact l2own_leaf hS hH hR t70 (by omega) (by omega) (by omega) (by omega) (by omega) (by omega)
    · skip
      rw [if_pos (by rfl)]
      go_simp
      have hb76 := below_alM WD (Obj.cells #[Value.slice none 0 0, .int .i64 0, .int .i64 0, Value.slice none 0 0, Value.slice none 0 0] 36)
      have t74 := t0.trans (hb76.mono t0.size)
      have zw73 : (WD.alloc (Obj.cells #[Value.slice none 0 0, .int .i64 0, .int .i64 0, Value.slice none 0 0, Value.slice none 0 0] 36)).heap.size ≤ WD.heap.size + 1 := by simp
      have zzw73 : WD.heap.size + 1 ≤ (WD.alloc (Obj.cells #[Value.slice none 0 0, .int .i64 0, .int .i64 0, Value.slice none 0 0, Value.slice none 0 0] 36)).heap.size := by simp
      have hR : RowOf (WD.alloc (Obj.cells #[Value.slice none 0 0, .int .i64 0, .int .i64 0, Value.slice none 0 0, Value.slice none 0 0] 36)) WD.heap.size 36 5 (bxf nilV 0 0 nilV nilV) := ⟨_, Deep.blk_alloc_new _ _, by simp, fun j hj => by
        match j, hj with
        | 0, _ => rfl
        | 1, _ => rfl
        | 2, _ => rfl
        | 3, _ => rfl
        | 4, _ => rfl⟩
      refine hK.out _ _ (TA _ t74) (fun hHeld75 => ?_)
      clear hK K hHeld0
      (try simp only [Act.put, List.setIfInBounds_toArray, List.set_cons_zero, List.set_cons_succ])
      generalize WD.alloc (Obj.cells #[Value.slice none 0 0, .int .i64 0, .int .i64 0, Value.slice none 0 0, Value.slice none 0 0] 36) = w73 at *
      refine step2L (i := 2) (j := 7) rfl rfl (by kernel_rfl) (fun K hK => ?_) (fun K hK => ?_)
      · skip
        rw [if_pos (by rfl)]
        go_simp
        refine (l1own_any _ m.s _ (h.s.stays (TA _ t74).1) HC.out hn.s.1).mono ?_
        rintro e w77 ⟨ov, q, rfl, hO, hq, hb80⟩
        have hS : OwnT w73.heap.size w77.heap.size w77 ov m.s := by
          have h1 := OwnQ.ownS (Nat.le_refl _) hO (fun i hi => by rw [← qchs_at q hi, hq]; exact (HC.out i (by rw [← hq, qchs_length]; exact hi)).1)
          rw [hq] at h1
          exact OwnT.wide (show OwnT (w73.heap.size + 3) w77.heap.size w77 ov m.s from h1) (by omega) (Nat.le_refl _)
        obtain ⟨oa, on, oc, rfl⟩ : ∃ a n c, ov = .slice a n c := by
          rcases hS with ⟨rfl, _⟩ | ⟨b, Bs, cap, rfl, _⟩
          · exact ⟨_, _, _, rfl⟩
          · exact ⟨_, _, _, rfl⟩
        clear hO hq
        have t78 := t74.trans (hb80.mono t74.size)
        have zw77 := hb80.size
        refine hK.out _ _ (TA _ t78) (fun hHeld79 => ?_)
        clear hK K hHeld75
        (try simp only [Act.put, List.setIfInBounds_toArray, List.set_cons_zero, List.set_cons_succ])
        replace hR := hR.of_block (hb80.block _ hR.lt)
        obtain ⟨sA, sB, hA1, hA2, hB1, hB2, hS⟩ : ∃ sA sB, w73.heap.size ≤ sA ∧ sA ≤ w73.heap.size ∧ w77.heap.size ≤ sB ∧ sB ≤ w77.heap.size ∧ OwnT sA sB w77 (.slice oa on oc) m.s := ⟨_, _, Nat.le_refl _, Nat.le_refl _, Nat.le_refl _, Nat.le_refl _, hS⟩
        refine stepL (i := 7) rfl (by kernel_rfl) (fun K hK => ?_)
        · skip
          rw [if_pos (by rfl)]
          go_simp
          have hb84 := below_alM w77 (Obj.cells #[] 101)
          have t82 := t78.trans (hb84.mono t78.size)
          have zw81 : (w77.alloc (Obj.cells #[] 101)).heap.size ≤ w77.heap.size + 1 := by simp
          have zzw81 : w77.heap.size + 1 ≤ (w77.alloc (Obj.cells #[] 101)).heap.size := by simp
          replace hR := hR.of_block (hb84.block _ hR.lt)
          replace hS := hS.stays hb84
          have hE : (w77.alloc (Obj.cells #[] 101)).ownsRow W.heap.size 101 6 (.slice (some ⟨w77.heap.size, 0, none⟩) 0 0) 0 [] := owns_new (cs := []) (n := 0) (Deep.blk_alloc_new _ _) rfl (Nat.zero_le _) t78.size
          refine hK.out _ _ (TA _ t82) (fun hHeld83 => ?_)
          clear hK K hHeld79
          (try simp only [Act.put, List.setIfInBounds_toArray, List.set_cons_zero, List.set_cons_succ])
          generalize w77.alloc (Obj.cells #[] 101) = w81 at *
          refine stepL (i := 10) rfl (by kernel_rfl) (fun K hK => ?_)
          · skip
            refine step_append_src (by rfl) _ _ _ (by rfl) W.heap.size 101 ti _ 6 48 Tryz.underlying34 hI hz0 hz1 hz2 rfl (by omega) _ 0 0 [] (by rfl) hE a3 m.h.length cap3 (hexa m.h) (by rfl) (hexa_length _) (hEv.stays t82) (hexa_one _) (by unfold maxLen; omega) (by omega) t82.size ?_
            intro gH cH w85 hH hgr hat hltH
            simp only [Nat.zero_add, List.nil_append] at hH ⊢
            have hgE := (owns_ltM hE rfl)
            have zw85 := hgr.size
            have t86 : Below W.heap.size W w85 := t82.grown hgr t82.size (fun k hk => by cases hk; exact hgE.1)
            refine hK.out _ _ (TA _ t86) (fun hHeld87 => ?_)
            clear hK K hHeld83
            (try simp only [Act.put, List.setIfInBounds_toArray, List.set_cons_zero, List.set_cons_succ])
            replace hS := hS.keep (w' := w85) fun k h1 h2 h3 => hgr.block k h3 (fun ee => by injection ee with ee; omega)
            have hRl := hR.lt
            replace hR := hR.of_block (hgr.block _ hR.lt (fun ee => by injection ee with ee; omega))
            clear hgr hE
            have hbm := build_mgrE oa on oc m.c m.n (some ⟨gH, 0, none⟩) m.h.length cH
            refine takeL (i := 11) (v := ?_) rfl (by kernel_rfl) (by kernel_rfl) (by kernel_rfl) (fun _ _ _ h => h) rfl (by assumption) ?_ ?_
            rotate_left
            · (intro wS hSw; (try dsimp only at hSw); go_simp; try with_reducible rfl)
            (try simp only [Act.put, List.setIfInBounds_toArray, List.set_cons_zero, List.set_cons_succ])
            clear hbm
            have c0 := hR.cell (show 0 < 5 by omega)
            have c1 := hR.cell (show 1 < 5 by omega)
            have c2 := hR.cell (show 2 < 5 by omega)
            have c3 := hR.cell (show 3 < 5 by omega)
            have c4 := hR.cell (show 4 < 5 by omega)
            have f0 := hR.frozen 0
            have f1 := hR.frozen 1
            have f2 := hR.frozen 2
            have f3 := hR.frozen 3
            have f4 := hR.frozen 4
            have hRl := hR.lt
            simp only [bxf] at c0 c1 c2 c3 c4
            refine wpAnyH_done (by kernel_rfl) ?_ _
            refine lastL (n := 13) rfl rfl ?_
            go_simp
            clear hHeld87
            go_wp2
            go_meet
            case rel => exact l2own_leaf hS hH hR t86 (by omega) (by omega) (by omega) (by omega) (by omega) (by omega)
      · skip
        rw [if_pos (by rfl)]
        go_simp
        have hb92 := below_alM w73 (Obj.cells #[] 101)
        have t90 := t74.trans (hb92.mono t74.size)
        have zw89 : (w73.alloc (Obj.cells #[] 101)).heap.size ≤ w73.heap.size + 1 := by simp
        have zzw89 : w73.heap.size + 1 ≤ (w73.alloc (Obj.cells #[] 101)).heap.size := by simp
        replace hR := hR.of_block (hb92.block _ hR.lt)
        have hE : (w73.alloc (Obj.cells #[] 101)).ownsRow W.heap.size 101 6 (.slice (some ⟨w73.heap.size, 0, none⟩) 0 0) 0 [] := owns_new (cs := []) (n := 0) (Deep.blk_alloc_new _ _) rfl (Nat.zero_le _) t74.size
        refine hK.out _ _ (TA _ t90) (fun hHeld91 => ?_)
        clear hK K hHeld75
        (try simp only [Act.put, List.setIfInBounds_toArray, List.set_cons_zero, List.set_cons_succ])
        generalize w73.alloc (Obj.cells #[] 101) = w89 at *
        refine stepL (i := 2) rfl (by kernel_rfl) (fun K hK => ?_)
        · skip
          rw [if_pos (by rfl)]
          go_simp
          refine (l1own_any _ m.s _ (h.s.stays (TA _ t90).1) HC.out hn.s.1).mono ?_
          rintro e w93 ⟨ov, q, rfl, hO, hq, hb96⟩
          have hS : OwnT w89.heap.size w93.heap.size w93 ov m.s := by
            have h1 := OwnQ.ownS (Nat.le_refl _) hO (fun i hi => by rw [← qchs_at q hi, hq]; exact (HC.out i (by rw [← hq, qchs_length]; exact hi)).1)
            rw [hq] at h1
            exact OwnT.wide (show OwnT (w89.heap.size + 3) w93.heap.size w93 ov m.s from h1) (by omega) (Nat.le_refl _)
          obtain ⟨oa, on, oc, rfl⟩ : ∃ a n c, ov = .slice a n c := by
            rcases hS with ⟨rfl, _⟩ | ⟨b, Bs, cap, rfl, _⟩
            · exact ⟨_, _, _, rfl⟩
            · exact ⟨_, _, _, rfl⟩
          clear hO hq
          have t94 := t90.trans (hb96.mono t90.size)
          have zw93 := hb96.size
          refine hK.out _ _ (TA _ t94) (fun hHeld95 => ?_)
          clear hK K hHeld91
          (try simp only [Act.put, List.setIfInBounds_toArray, List.set_cons_zero, List.set_cons_succ])
          replace hE := owns_keepM hE fun g hg hl => hb96.block g hl
          replace hR := hR.of_block (hb96.block _ hR.lt)
          obtain ⟨sA, sB, hA1, hA2, hB1, hB2, hS⟩ : ∃ sA sB, w89.heap.size ≤ sA ∧ sA ≤ w89.heap.size ∧ w93.heap.size ≤ sB ∧ sB ≤ w93.heap.size ∧ OwnT sA sB w93 (.slice oa on oc) m.s := ⟨_, _, Nat.le_refl _, Nat.le_refl _, Nat.le_refl _, Nat.le_refl _, hS⟩
          refine stepL (i := 10) rfl (by kernel_rfl) (fun K hK => ?_)
          · skip
            refine step_append_src (by rfl) _ _ _ (by rfl) W.heap.size 101 ti _ 6 48 Tryz.underlying34 hI hz0 hz1 hz2 rfl (by omega) _ 0 0 [] (by rfl) hE a3 m.h.length cap3 (hexa m.h) (by rfl) (hexa_length _) (hEv.stays t94) (hexa_one _) (by unfold maxLen; omega) (by omega) t94.size ?_
            intro gH cH w97 hH hgr hat hltH
            simp only [Nat.zero_add, List.nil_append] at hH ⊢
            have hgE := (owns_ltM hE rfl)
            have zw97 := hgr.size
            have t98 : Below W.heap.size W w97 := t94.grown hgr t94.size (fun k hk => by cases hk; exact hgE.1)
            refine hK.out _ _ (TA _ t98) (fun hHeld99 => ?_)
            clear hK K hHeld95
            (try simp only [Act.put, List.setIfInBounds_toArray, List.set_cons_zero, List.set_cons_succ])
            replace hS := hS.keep (w' := w97) fun k h1 h2 h3 => hgr.block k h3 (fun ee => by injection ee with ee; omega)
            have hRl := hR.lt
            replace hR := hR.of_block (hgr.block _ hR.lt (fun ee => by injection ee with ee; omega))
            clear hgr hE
            have hbm := build_mgrE oa on oc m.c m.n (some ⟨gH, 0, none⟩) m.h.length cH
            refine takeL (i := 11) (v := ?_) rfl (by kernel_rfl) (by kernel_rfl) (by kernel_rfl) (fun _ _ _ h => h) rfl (by assumption) ?_ ?_
            rotate_left
            · (intro wS hSw; (try dsimp only at hSw); go_simp; try with_reducible rfl)
            (try simp only [Act.put, List.setIfInBounds_toArray, List.set_cons_zero, List.set_cons_succ])
            clear hbm
            have c0 := hR.cell (show 0 < 5 by omega)
            have c1 := hR.cell (show 1 < 5 by omega)
            have c2 := hR.cell (show 2 < 5 by omega)
            have c3 := hR.cell (show 3 < 5 by omega)
            have c4 := hR.cell (show 4 < 5 by omega)
            have f0 := hR.frozen 0
            have f1 := hR.frozen 1
            have f2 := hR.frozen 2
            have f3 := hR.frozen 3
            have f4 := hR.frozen 4
            have hRl := hR.lt
            simp only [bxf] at c0 c1 c2 c3 c4
            refine wpAnyH_done (by kernel_rfl) ?_ _
            refine lastL (n := 13) rfl rfl ?_
            go_simp
            clear hHeld99
            go_wp2
            go_meet
            case rel => exact l2own_leaf hS hH hR t98 (by omega) (by omega) (by omega) (by omega) (by omega) (by omega)
  case rest =>
    obtain ⟨R, sA, sB, ov, ve', rfl, P, bc⟩ := hcut
    have y3 := cell_stays bc x3
    have r1 := r0.of_block (bc.block _ r0.lt)
    clear x0 x1 x2 x4 hEv HC
    have hxl := hn.x
    go_wp2
    go_loopw [4] (fun t wr => ∃ (k : Nat) (vt' : Value) (wv : Nat → Value), k ≤ m.x.length ∧ t = .int .i64 (k : Int) ∧ PtrM W.heap.size wr R sA sB ov vt' ve' { m with x := m.x.take k } wv ∧ Below W.heap.size W wr) (fun t _ => m.x.length - (intOf t).toNat)
    case atStart => exact ⟨0, nilV, fun _ => nilV, Nat.zero_le _, rfl, by simpa using P, bc⟩
    case round =>
      rename World => wo
      clear P bc y3 r1
      obtain ⟨k, vt', wv, hk, rfl, P, bc⟩ := hrel
      have z3 := cell_stays bc x3
      have hBl := P.box.lt
      have hRb := P.base
      have hzo := bc.size
      by_cases hlt : k < m.x.length
      · obtain ⟨a2', c2', e2, hm2, hxc⟩ := id h.x
        cases e2
        obtain ⟨b, off, rfl, hlo, hhi, hcc⟩ := hxc (by omega)
        obtain ⟨d0, d1, aw, cw, d2, hrw⟩ := hcc k hlt
        replace d0 := cell_stays (b0.trans (bc.mono b0.size)) d0
        replace d1 := cell_stays (b0.trans (bc.mono b0.size)) d1
        replace d2 := cell_stays (b0.trans (bc.mono b0.size)) d2
        replace hrw := hrw.stays (b0.trans (bc.mono b0.size))
        have hn2 := hn.w k hlt
        have j0 : (0 : Int) ≤ (k : Int) := by omega
        have j1 : (k : Int) < (m.x.length : Int) := by omega
        clear hcc hxc
        have htk : m.x.take (k + 1) = m.x.take k ++ [tAt m.x k] := by
          rw [List.take_add_one, List.getElem?_eq_getElem hlt]
          simp [tAt, hlt]
        have hlk : (m.x.take k).length = k := by simp; omega
        generalize tAt m.x k = tk at *
        obtain ⟨va, vc, hvt⟩ := owns_sliceM P.own.x
        simp only at hvt
        rw [hlk] at hvt
        subst hvt
        obtain ⟨ti', ts, tw⟩ := tk
        simp only at d0 d1 d2 hrw hn2
        have bA := below_alM wo (Obj.cells #[.int .i64 ti', .int .i64 ts, .slice aw tw.length cw] 97)
        have bB := below_alM (wo.alloc (Obj.cells #[.int .i64 ti', .int .i64 ts, .slice aw tw.length cw] 97)) (Obj.cells #[] 111)
        obtain ⟨tr, hIr, hr0, hr1, hr2⟩ := info_parts infoRow
        have hE : ((wo.alloc (Obj.cells #[.int .i64 ti', .int .i64 ts, .slice aw tw.length cw] 97)).alloc (Obj.cells #[] 111)).ownsRow W.heap.size 111 3 (.slice (some ⟨wo.heap.size + 1, 0, none⟩) 0 0) 0 [] := owns_new (cs := []) (n := 0) (by have := Deep.blk_alloc_new (wo.alloc (Obj.cells #[.int .i64 ti', .int .i64 ts, .slice aw tw.length cw] 97)) (Obj.cells #[] 111); simpa using this) rfl (Nat.zero_le _) (by omega)
        have hsrc : SrcAt ((wo.alloc (Obj.cells #[.int .i64 ti', .int .i64 ts, .slice aw tw.length cw] 97)).alloc (Obj.cells #[] 111)) aw tw.length (flat tw) := (rows_cells ((hrw.stays bA).stays bB)).src (flat_length tw)
        have hzB : ((wo.alloc (Obj.cells #[.int .i64 ti', .int .i64 ts, .slice aw tw.length cw] 97)).alloc (Obj.cells #[] 111)).heap.size = wo.heap.size + 2 := by simp
        have f5 : ((wo.alloc (Obj.cells #[.int .i64 ti', .int .i64 ts, .slice aw tw.length cw] 97)).alloc (Obj.cells #[] 111)).heap[wo.heap.size]? = some (.cells #[.int .i64 ti', .int .i64 ts, .slice aw tw.length cw] 97 (0, 0)) := by
          rw [bB.block _ (by simp)]
          exact Deep.blk_alloc_new _ _
        go_wp2_with (first | (at_builtin; refine wpList_append_src rfl _ _ 95 rfl W.heap.size 111 tr _ 3 24 Tryz.underlying95 hIr hr0 hr1 hr2 rfl (by decide) _ 0 0 [] rfl hE aw tw.length cw (flat tw) rfl (flat_length tw) hsrc (flat_one' tw) (by unfold maxLen; omega) (by omega) (by omega) ?_; intro gu cu w3 hown3 hgr3 hat3 hlt3; simp only [Nat.zero_add, List.nil_append] at hown3 ⊢; have f3 := (hgr3.block wo.heap.size (by omega) (fun e => by injection e with e; omega)).trans f5; have hr3 : RowOf w3 wo.heap.size 97 3 (fun j => [Value.int .i64 ti', .int .i64 ts, .slice aw tw.length cw].getD j undef) := ⟨_, f3, by simp, fun j hj => by (match j, hj with | 0, _ => rfl | 1, _ => rfl | 2, _ => rfl)⟩; have q0 := hr3.cell (show 0 < 3 by omega); have q1 := hr3.cell (show 1 < 3 by omega); have q2 := hr3.cell (show 2 < 3 by omega); have qf := hr3.frozen 2; simp only [List.getD_cons_zero, List.getD_cons_succ] at q0 q1 q2; have R3 := P.box.of_block (show w3.heap[R]? = wo.heap[R]? from (hgr3.block R (by omega) (fun e => by injection e with e; omega)).trans ((bB.block R (by simp; omega)).trans (bA.block R hBl))); have p3 := R3.cell (show 3 < 5 by omega); have pf := R3.frozen 3; simp only [bxf] at p3; have b2w : Below wo.heap.size wo w3 := (((Below.refl wo.heap.size wo).alloc (Nat.le_refl _) _).alloc (by simp) _).grown hgr3 (by omega) (fun k hk => by cases hk; omega); have hgu : wo.heap.size < gu := (by rcases hat3 with e | e <;> omega)) | (at_builtin; refine own_append (ti' := ti') (ts := ts) (tw := tw) P hlk (by omega) b2w hgu hlt3 hown3 rfl _ _ rfl rfl rfl ?_; intro gg cap5 w5 P6 b6 q5 qf5))
        refine ⟨⟨k + 1, _, _, by omega, by push_cast; rfl, by rw [htk]; exact P6, bc.trans b6⟩, ?_⟩
        simp only [intOf]
        omega
      · obtain rfl : k = m.x.length := by omega
        have j0 : ¬ ((m.x.length : Int) < (m.x.length : Int)) := by omega
        have r3 := r0.of_block (bc.block _ r0.lt)
        obtain ⟨va, vc, hvt⟩ := owns_sliceM P.own.x
        obtain ⟨ea, ec, hve⟩ := owns_sliceM P.own.h
        obtain ⟨oa, on, oc, hov⟩ : ∃ a n c, ov = .slice a n c := by
          rcases P.own.s with ⟨rfl, _⟩ | ⟨b, Bs, cap, rfl, _⟩
          · exact ⟨_, _, _, rfl⟩
          · exact ⟨_, _, _, rfl⟩
        subst hvt hve hov
        have O3 := P.own
        obtain ⟨p0, _⟩ := P.cell (j := 0) (by omega)
        obtain ⟨p1, _⟩ := P.cell (j := 1) (by omega)
        obtain ⟨p2, _⟩ := P.cell (j := 2) (by omega)
        obtain ⟨p3, _⟩ := P.cell (j := 3) (by omega)
        obtain ⟨p4, _⟩ := P.cell (j := 4) (by omega)
        simp only [List.take_length, bxf] at p0 p1 p2 p3 p4 O3
        clear P
        have c0 := r3.cell (show 0 < 5 by omega)
        have c1' := r3.cell (show 1 < 5 by omega)
        have c2' := r3.cell (show 2 < 5 by omega)
        have c3' := r3.cell (show 3 < 5 by omega)
        have c4' := r3.cell (show 4 < 5 by omega)
        have f0 := r3.frozen 0
        have f1 := r3.frozen 1
        have f2 := r3.frozen 2
        have f3 := r3.frozen 3
        have f4 := r3.frozen 4
        have hz3 := r3.lt
        go_wp2
        obtain ⟨kz, kk⟩ := boxed_keep0 wo (w.heap.size + 1) (.slice oa on oc) (.int .i64 m.c) (.int .i64 m.n) (.slice va m.x.length vc) (.slice ea m.h.length ec)
        have OF := (O3.keep (fun k h1 h2 => kk k (by omega) h2) kz).mono (base' := w.heap.size) (by omega)
        have bw := b0.trans (bc.mono (by omega))
        refine bodyPost_ret (v := .agg #[.slice oa on oc, .int .i64 m.c, .int .i64 m.n, .slice va m.x.length vc, .slice ea m.h.length ec]) (by simp [results, Tryz.results28, go_sem, c0, c1', c2', c3', c4']) rfl ⟨_, rfl, ⟨sA, sB, _, _, _, _, rfl, OF⟩, ?_⟩
        repeat (first | exact bw | refine Below.setCell ?_ (by simp) _)
end Go.Proofs.YtmecbppblbmchaaGreatDoor
