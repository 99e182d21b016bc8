import Derived.Test.YtmecbppblbmchaaGreatDoorM2w
import Derived.Test.YtmecbppblbmchaaGreatDoorM6
import Derived.Test.YtmecbppblbmchaaGreatDoorMRoom
import Derived.Test.YtmecbppblbmchaaGreatDoorM5
/- The program's AbortTx. -/
namespace Go.Proofs.YtmecbppblbmchaaGreatDoor
open Go.ChangeShapes Go.WideShapes Go.ChangeAt Go.RowKit Go.Sort
set_option linter.unusedVariables false
set_option maxRecDepth 100000
attribute [local go_sem ↓] Go.wp_at_zero Go.wp_at_succ

/-- What AbortTx comes to. -/
def RA (m x : Md) (tx code : Int) : Prop :=
  (mgrOk m ∧ m.h.length ≠ 3000 ∧ ∃ i, IsTx m tx i ∧ x = abM m tx i ∧ code = 0) ∨ ((¬ mgrOk m ∨ NoTx m tx) ∧ x = md0 ∧ code = 1) ∨ (mgrOk m ∧ (∃ i, IsTx m tx i) ∧ m.h.length = 3000 ∧ x = md0 ∧ code = 2)
theorem noTx_not {m : Md} {tx : Int} {i : Nat} (h : NoTx m tx) (hi : IsTx m tx i) : False := h i hi.1 hi.2.1
theorem RA.one {m x x' : Md} {tx code code' : Int} (h : RA m x tx code) (h' : RA m x' tx code') : x = x' ∧ code = code' := by
  rcases h with ⟨a, b, i, hi, rfl, rfl⟩ | ⟨a, rfl, rfl⟩ | ⟨a, ⟨i, hi⟩, b, rfl, rfl⟩ <;> rcases h' with ⟨a', b', i', hi', rfl, rfl⟩ | ⟨a', rfl, rfl⟩ | ⟨a', ⟨i', hi'⟩, b', rfl, rfl⟩
  · rw [hi.one hi']; exact ⟨rfl, rfl⟩
  · rcases a' with h | h
    · exact absurd a h
    · exact (noTx_not h hi).elim
  · exact absurd b' b
  · rcases a with h | h
    · exact absurd a' h
    · exact (noTx_not h hi').elim
  · exact ⟨rfl, rfl⟩
  · rcases a with h | h
    · exact absurd a' h
    · exact (noTx_not h hi').elim
  · exact absurd b b'
  · rcases a' with h | h
    · exact absurd a h
    · exact (noTx_not h hi).elim
  · exact ⟨rfl, rfl⟩
/-- What a call on the copy leaves: the state anew, or nothing and a refusal. -/
def InM (base B : Nat) (w : World) (e : Ending) (x : Md) (code : Int) : Prop := (code = 0 ∧ e = .returned .nilIface ∧ ∃ s0 s1 vs vt ve wv, PtrM base w B s0 s1 vs vt ve x wv) ∨ (x = md0 ∧ e = .returned (refE code))
theorem abort_in (base B s0 s1 : Nat) (vs vt ve : Value) (m : Md) (wv : Nat → Value) (tx : Int) (w : World) (h : PtrM base w B s0 s1 vs vt ve m wv) (hn : SmallM' m) :
    Calls Tryz.prog 54 #[.pointer (some ⟨B, 0, none⟩), .int .i64 tx] w fun e w' => Below base w w' ∧ ∃ x code, RA m x tx code ∧ InM base B w' e x code := by
  refine (abort_any base B s0 s1 vs vt ve m wv tx w h hn).mono ?_
  rintro e w' ⟨hb, ⟨a, b, rfl, i, vt', ve', wv', hi, P⟩ | ⟨a, rfl⟩ | ⟨a, b, c, rfl⟩⟩
  · exact ⟨hb, _, 0, .inl ⟨a, b, i, hi, rfl, rfl⟩, .inl ⟨rfl, rfl, _, _, _, _, _, _, P⟩⟩
  · exact ⟨hb, md0, 1, .inr (.inl ⟨a, rfl, rfl⟩), .inr ⟨rfl, rfl⟩⟩
  · exact ⟨hb, md0, 2, .inr (.inr ⟨a, b, c, rfl, rfl⟩), .inr ⟨rfl, rfl⟩⟩

set_option maxHeartbeats 4000000 in
theorem implAbortTx_any (vs vt ve : Value) (m : Md) (tx : Int) (w : World) {lo hi : Nat} (h : MAt lo hi w vs vt ve m) (hn : SmallM m) (hL : Laid w) :
    Calls Tryz.prog 23 #[.agg #[vs, .int .i64 m.c, .int .i64 m.n, vt, ve], .int .i64 tx] w fun e w' => ∃ v x code, e = .returned (.tuple #[v, .int .i64 code]) ∧ AnsM w.heap.size w' v x ∧ RA m x tx code ∧ Below w.heap.size w w' := by
  obtain ⟨a1, cap1, hv1⟩ : ∃ a cap, vs = .slice a m.s.length cap := by obtain ⟨a, cap, h1, _⟩ := h.s; exact ⟨a, cap, h1⟩
  obtain ⟨a2, cap2, hv2⟩ : ∃ a cap, vt = .slice a m.x.length cap := by obtain ⟨a, cap, h1, _⟩ := h.x; exact ⟨a, cap, h1⟩
  obtain ⟨a3, cap3, hv3⟩ : ∃ a cap, ve = .slice a m.h.length cap := by obtain ⟨a, cap, h1, _⟩ := h.h; exact ⟨a, cap, h1⟩
  subst hv1 hv2 hv3
  have b0 : Below w.heap.size w ((w.alloc (Obj.cells #[Value.slice a1 m.s.length cap1, .int .i64 m.c, .int .i64 m.n, Value.slice a2 m.x.length cap2, Value.slice a3 m.h.length cap3] 36)).alloc (Obj.cells #[Value.slice none 0 0, .int .i64 0, .int .i64 0, Value.slice none 0 0, Value.slice none 0 0] 36)) := ((Below.refl _ _).alloc (Nat.le_refl _) _).alloc (by simp) _
  have r0 := zeroBox w (Obj.cells #[Value.slice a1 m.s.length cap1, .int .i64 m.c, .int .i64 m.n, Value.slice a2 m.x.length cap2, Value.slice a3 m.h.length cap3] 36)
  have hz0 : w.heap.size + 1 < ((w.alloc (Obj.cells #[Value.slice a1 m.s.length cap1, .int .i64 m.c, .int .i64 m.n, Value.slice a2 m.x.length cap2, Value.slice a3 m.h.length cap3] 36)).alloc (Obj.cells #[Value.slice none 0 0, .int .i64 0, .int .i64 0, Value.slice none 0 0, Value.slice none 0 0] 36)).heap.size := by simp
  go_enter Tryz.func23, Tryz.ntmps23
  go_wp2_with fail
  generalize (w.alloc (Obj.cells #[Value.slice a1 m.s.length cap1, .int .i64 m.c, .int .i64 m.n, Value.slice a2 m.x.length cap2, Value.slice a3 m.h.length cap3] 36)).alloc (Obj.cells #[Value.slice none 0 0, .int .i64 0, .int .i64 0, Value.slice none 0 0, Value.slice none 0 0] 36) = W0 at *
  refine Calls.mono (copyMgr_own _ _ _ m _ (h.stays b0) hn) ?_
  rintro e w1 ⟨B, s0, s1, vs1, vt1, ve1, wv1, rfl, P1, hb1⟩
  have b1 := b0.trans (hb1.mono b0.size)
  have r1 := r0.of_block (hb1.block _ hz0)
  have hz1 := hb1.size
  clear r0 hb1
  go_wp2_with fail
  refine Calls.mono (abort_in _ B s0 s1 vs1 vt1 ve1 m wv1 tx _ P1 hn.room) ?_
  rintro e w2 ⟨hb2, x, code, hR, hcase⟩
  have b2 := b1.trans (hb2.mono (by omega))
  have r2 := r1.of_block (hb2.block _ hz0)
  have hz2 := hb2.size
  have L2 := hL.stays b2
  have HB : Hid (RA m x tx code) := hR
  clear r1 b1 hR
  rcases hcase with ⟨rfl, rfl, t0, t1, vs2, vt2, ve2, wv2, P2⟩ | ⟨rfl, rfl⟩
  · go_wp2_with fail
    refine Calls.mono (told_ptr _ B t0 t1 vs2 vt2 ve2 x wv2 _ P2) ?_
    rintro e w3 ⟨rfl, hb3⟩
    have r3 := r2.of_block (hb3.block _ (by omega))
    have O3 := P2.own.stays hb3
    have b3 := b2.trans (hb3.mono b2.size)
    obtain ⟨a2, c2, rfl⟩ := owns_sliceM O3.x
    obtain ⟨a3, c3, rfl⟩ := owns_sliceM O3.h
    obtain ⟨a1, n1, c1, rfl⟩ : ∃ a n c, vs2 = .slice a n c := by
      rcases O3.s with ⟨rfl, _⟩ | ⟨b, Bs, cap, rfl, _⟩
      · exact ⟨_, _, _, rfl⟩
      · exact ⟨_, _, _, rfl⟩
    clear P1 P2 hb3 r2 L2 hL
    have c0 := r3.cell (show 0 < 5 by omega)
    have c1' := r3.cell (show 1 < 5 by omega)
    have c2' := r3.cell (show 2 < 5 by omega)
    have c3' := r3.cell (show 3 < 5 by omega)
    have c4' := r3.cell (show 4 < 5 by omega)
    have f0 := r3.frozen 0
    have f1 := r3.frozen 1
    have f2 := r3.frozen 2
    have f3 := r3.frozen 3
    have f4 := r3.frozen 4
    have hz3 := r3.lt
    go_wp2
    obtain ⟨kz, kk⟩ := boxed_keep0 w3 (w.heap.size + 1) (.slice a1 n1 c1) (.int .i64 x.c) (.int .i64 x.n) (.slice a2 x.x.length c2) (.slice a3 x.h.length c3)
    have OF := (O3.keep (fun k h1 h2 => kk k (by omega) h2) kz).mono (base' := w.heap.size) (by omega)
    refine bodyPost_ret (v := .tuple #[.agg #[.slice a1 n1 c1, .int .i64 x.c, .int .i64 x.n, .slice a2 x.x.length c2, .slice a3 x.h.length c3], .int .i64 0]) (by simp [results, Tryz.results23, go_sem, c0, c1', c2', c3', c4']) rfl ⟨_, x, _, rfl, ⟨t0, t1, _, _, _, _, rfl, OF⟩, HB.out, ?_⟩
    repeat (first | exact b3 | refine Below.alloc ?_ (by simp only [size_setCell]; omega) _ | refine Below.setCell ?_ (by simp) _)
  · simp only [refE]
    go_wp2_with fail
    refine Calls.mono (told_err _ code _ L2) ?_
    rintro e w3 ⟨rfl, hb3⟩
    have r3 := r2.of_block (hb3.block _ (by omega))
    have b3 := b2.trans (hb3.mono b2.size)
    clear hb3 r2 L2 hL P1
    have c0 := r3.cell (show 0 < 5 by omega)
    have c1' := r3.cell (show 1 < 5 by omega)
    have c2' := r3.cell (show 2 < 5 by omega)
    have c3' := r3.cell (show 3 < 5 by omega)
    have c4' := r3.cell (show 4 < 5 by omega)
    have f0 := r3.frozen 0
    have f1 := r3.frozen 1
    have f2 := r3.frozen 2
    have f3 := r3.frozen 3
    have f4 := r3.frozen 4
    have hz3 := r3.lt
    go_wp2
    obtain ⟨kz, kk⟩ := boxed_keep0 w3 (w.heap.size + 1) (.slice none 0 0) (.int .i64 0) (.int .i64 0) (.slice none 0 0) (.slice none 0 0)
    have OF := OwnM.none w.heap.size (((((w3.setCell ⟨w.heap.size + 1, 0, none⟩ (.slice none 0 0)).setCell ⟨w.heap.size + 1, 1, none⟩ (.int .i64 0)).setCell ⟨w.heap.size + 1, 2, none⟩ (.int .i64 0)).setCell ⟨w.heap.size + 1, 3, none⟩ (.slice none 0 0)).setCell ⟨w.heap.size + 1, 4, none⟩ (.slice none 0 0)) (by have := b3.size; omega)
    refine bodyPost_ret (v := .tuple #[.agg #[.slice none 0 0, .int .i64 0, .int .i64 0, .slice none 0 0, .slice none 0 0], .int .i64 code]) (by simp [results, Tryz.results23, go_sem, c0, c1', c2', c3', c4']) rfl ⟨_, md0, _, rfl, ⟨_, _, _, _, _, _, rfl, OF⟩, HB.out, ?_⟩
    repeat (first | exact b3 | refine Below.alloc ?_ (by simp only [size_setCell]; omega) _ | refine Below.setCell ?_ (by simp) _)
end Go.Proofs.YtmecbppblbmchaaGreatDoor

/- The specification's l2drop, on a state behind a pointer. -/
namespace Go.Proofs.YtmecbppblbmchaaGreatDoor
open Go.ChangeShapes Go.WideShapes Go.ChangeAt Go.RowKit Go.Sort
set_option linter.unusedVariables false
set_option maxRecDepth 100000
attribute [local go_sem ↓] Go.wp_at_zero Go.wp_at_succ

theorem tri_drop_take (f g h : Nat → Value) {n i : Nat} (hi : i < n) : (tri n f g h).take (i * 3) ++ (tri n f g h).drop ((i + 1) * 3) = tri (n - 1) (fun j => f (skipI i j)) (fun j => g (skipI i j)) (fun j => h (skipI i j)) := by
  have hl := tri_length n f g h
  refine ext3X _ _ (by rw [List.length_append, List.length_take, List.length_drop, hl]; omega) (tri_length _ _ _ _) fun q hq => ?_
  obtain ⟨x', y', z'⟩ := tri_get (fun j => f (skipI i j)) (fun j => g (skipI i j)) (fun j => h (skipI i j)) (n - 1) q hq
  obtain ⟨x, y, z⟩ := tri_get f g h n (skipI i q) (skip_lt hi hq)
  have key : ∀ r, r < 3 → ((tri n f g h).take (i * 3) ++ (tri n f g h).drop ((i + 1) * 3))[q * 3 + r]? = (tri n f g h)[skipI i q * 3 + r]? := fun r hr => by
    by_cases hji : q < i
    · rw [List.getElem?_append_left (by rw [List.length_take]; omega), List.getElem?_take, if_pos (by omega), skipI, if_pos hji]
    · rw [List.getElem?_append_right (by rw [List.length_take]; omega), List.length_take, List.getElem?_drop, skipI, if_neg hji]
      congr 1
      omega
  exact ⟨(key 0 (by omega)).trans (x.trans x'.symm), (key 1 (by omega)).trans (y.trans y'.symm), (key 2 (by omega)).trans (z.trans z'.symm)⟩
theorem txc_drop_take (l : List Td) (wv : Nat → Value) {i : Nat} (hi : i < l.length) : (txc l wv).take (i * 3) ++ (txc l wv).drop ((i + 1) * 3) = txc (l.eraseIdx i) (fun j => wv (skipI i j)) := by
  rw [txc, tri_drop_take _ _ _ hi, txc, len_erase _ hi]
  simp only [tAt_erase]

set_option maxHeartbeats 4000000 in
theorem l2drop_any (base B s0 s1 : Nat) (vs vt ve : Value) (m : Md) (wv : Nat → Value) (i : Nat) (w : World) (h : PtrM base w B s0 s1 vs vt ve m wv) (hn : m.x.length ≤ 1048580) (hil : i < m.x.length) :
    Calls Tryz.prog 88 #[.pointer (some ⟨B, 0, none⟩), .int .i64 (i : Int)] w fun e w' => e = .returned (.tuple #[]) ∧ Below base w w' ∧ ∃ vt', PtrM base w' B s0 s1 vs vt' ve { m with x := m.x.eraseIdx i } (fun j => wv (skipI i j)) := by
  have hbase := h.base
  have hBl := h.box.lt
  obtain ⟨a2, cap2, hv2⟩ := owns_sliceM h.own.x
  subst hv2
  obtain ⟨g, hg, hgb, _, _⟩ := owns_cell h.own.x (txc_get m.x wv (show 0 < m.x.length by omega)).1
  subst hg
  have hgl := (owns_ltM h.own.x rfl).2
  obtain ⟨ti, hI, hz0, hz1, hz2⟩ := info_parts infoTx
  obtain ⟨c3, f3⟩ := h.cell (j := 3) (by omega)
  simp only [bxf] at c3
  have hzW : base ≤ w.heap.size := by omega
  obtain ⟨hs1, src1⟩ := cut_to (P := Tryz.prog) (T := 33) (by kernel_rfl) (fun x => by kernel_rfl) h.own.x (Nat.le_of_lt hil)
  obtain ⟨i1, hi1⟩ : ∃ i1, i1 = i + 1 := ⟨_, rfl⟩
  have src2 := cut_from h.own.x (show i1 ≤ m.x.length by omega)
  have hwr : IntKind.i64.wrap ((i : Int) + 1) = (i1 : Int) := by rw [IntKind.wrap_i64] <;> omega
  have hi2 : (i1 : Int) ≤ (m.x.length : Int) := by omega
  have hi3 : (0 : Int) ≤ (i1 : Int) := by omega
  have hlx := txc_get
  have hlt : ((txc m.x wv).take (i * 3)).length = i * 3 := by rw [List.length_take, h.own.x.1]; omega
  have hld : ((txc m.x wv).drop (i1 * 3)).length = (m.x.length - i1) * 3 := by rw [List.length_drop, h.own.x.1]; omega
  have hone : ∀ u ∈ txc m.x wv, u.oneCell' = true := tri_one fun j hj => ⟨rfl, rfl, by obtain ⟨a, c, e⟩ := owns_sliceM (h.own.xw j hj); rw [e]; rfl⟩
  have bD := (Below.refl w.heap.size w).drew
  clear hlx
  change Hid _ at hi1
  go_enter Tryz.func88, Tryz.ntmps88
  go_wp2_with fail
  refine region_last (fun x => x.cell? ⟨B, 3, none⟩ = some (.slice (some ⟨g, 0, none⟩) m.x.length cap2)) (by kernel_rfl) (by kernel_rfl) (by kernel_rfl) (cell_stays bD c3) (fun hHeld0 => ?_)
  simp only [List.dropLast, List.length_cons, List.length_nil, Nat.reduceAdd]
  refine takeL (i := 0) (v := ?_) rfl (by kernel_rfl) (by kernel_rfl) (by kernel_rfl) (fun _ _ _ h => h) rfl (by assumption) ?_ ?_
  rotate_left
  · (intro wS hSw; (try dsimp only at hSw); go_simp; try with_reducible rfl)
  (try simp only [Act.put, List.setIfInBounds_toArray, List.set_cons_zero, List.set_cons_succ])
  refine takeL (i := 2) (v := ?_) rfl (by kernel_rfl) (by kernel_rfl) (by kernel_rfl) (fun _ _ _ h => h) rfl (by assumption) ?_ ?_
  rotate_left
  · (intro wS hSw; (try dsimp only at hSw); go_simp; try with_reducible rfl)
  (try simp only [Act.put, List.setIfInBounds_toArray, List.set_cons_zero, List.set_cons_succ])
  refine takeL (i := 3) (v := ?_) rfl (by kernel_rfl) (by kernel_rfl) (by kernel_rfl) (fun _ _ _ h => h) rfl (by assumption) ?_ ?_
  rotate_left
  · (intro wS hSw; (try dsimp only at hSw); go_simp; try with_reducible rfl)
  (try simp only [Act.put, List.setIfInBounds_toArray, List.set_cons_zero, List.set_cons_succ])
  refine takeL (i := 4) (v := ?_) rfl (by kernel_rfl) (by kernel_rfl) (by kernel_rfl) (fun _ _ _ h => h) rfl (by assumption) ?_ ?_
  rotate_left
  · (intro wS hSw; (try dsimp only at hSw); go_simp; try with_reducible rfl)
  (try simp only [Act.put, List.setIfInBounds_toArray, List.set_cons_zero, List.set_cons_succ])
  refine takeL (i := 5) (v := ?_) rfl (by kernel_rfl) (by kernel_rfl) (by kernel_rfl) (fun _ _ _ h => h) rfl (by assumption) ?_ ?_
  rotate_left
  · (intro wS hSw; (try dsimp only at hSw); go_simp; try with_reducible rfl)
  (try simp only [Act.put, List.setIfInBounds_toArray, List.set_cons_zero, List.set_cons_succ])
  refine takeL (i := 6) (v := ?_) rfl (by kernel_rfl) (by kernel_rfl) (by kernel_rfl) (fun _ _ _ h => h) rfl (by assumption) ?_ ?_
  rotate_left
  · (intro wS hSw; (try dsimp only at hSw); go_simp; try with_reducible rfl)
  (try simp only [Act.put, List.setIfInBounds_toArray, List.set_cons_zero, List.set_cons_succ])
  refine takeL (i := 7) (v := ?_) rfl (by kernel_rfl) (by kernel_rfl) (by kernel_rfl) (fun _ _ _ h => h) rfl (by assumption) ?_ ?_
  rotate_left
  · (intro wS hSw; (try dsimp only at hSw); go_simp; try with_reducible rfl)
  (try simp only [Act.put, List.setIfInBounds_toArray, List.set_cons_zero, List.set_cons_succ])
  refine takeL (i := 9) (v := ?_) rfl (by kernel_rfl) (by kernel_rfl) (by kernel_rfl) (fun _ _ _ h => h) rfl (by assumption) ?_ ?_
  rotate_left
  · (intro wS hSw; (try dsimp only at hSw); go_simp; try with_reducible rfl)
  (try simp only [Act.put, List.setIfInBounds_toArray, List.set_cons_zero, List.set_cons_succ])
  refine takeL (i := 10) (v := ?_) rfl (by kernel_rfl) (by kernel_rfl) (by kernel_rfl) (fun _ _ _ h => h) rfl (by assumption) ?_ ?_
  rotate_left
  · (intro wS hSw; (try dsimp only at hSw); go_simp; try with_reducible rfl)
  (try simp only [Act.put, List.setIfInBounds_toArray, List.set_cons_zero, List.set_cons_succ])
  refine takeL (i := 11) (v := ?_) rfl (by kernel_rfl) (by kernel_rfl) (by kernel_rfl) (fun _ _ _ h => h) rfl (by assumption) ?_ ?_
  rotate_left
  · (intro wS hSw; (try dsimp only at hSw); go_simp; try with_reducible rfl)
  (try simp only [Act.put, List.setIfInBounds_toArray, List.set_cons_zero, List.set_cons_succ])
  refine takeL (i := 12) (v := ?_) rfl (by kernel_rfl) (by kernel_rfl) (by kernel_rfl) (fun _ _ _ h => h) rfl (by assumption) ?_ ?_
  rotate_left
  · (intro wS hSw; (try dsimp only at hSw); go_simp; try with_reducible rfl)
  (try simp only [Act.put, List.setIfInBounds_toArray, List.set_cons_zero, List.set_cons_succ])
  refine takeL (i := 13) (v := ?_) rfl (by kernel_rfl) (by kernel_rfl) (by kernel_rfl) (fun _ _ _ h => h) rfl (by assumption) ?_ ?_
  rotate_left
  · (intro wS hSw; (try dsimp only at hSw); go_simp; try with_reducible rfl)
  (try simp only [Act.put, List.setIfInBounds_toArray, List.set_cons_zero, List.set_cons_succ])
  refine takeL (i := 14) (v := ?_) rfl (by kernel_rfl) (by kernel_rfl) (by kernel_rfl) (fun _ _ _ h => h) rfl (by assumption) ?_ ?_
  rotate_left
  · (intro wS hSw; (try dsimp only at hSw); go_simp; try with_reducible rfl)
  (try simp only [Act.put, List.setIfInBounds_toArray, List.set_cons_zero, List.set_cons_succ])
  refine takeL (i := 15) (v := ?_) rfl (by kernel_rfl) (by kernel_rfl) (by kernel_rfl) (fun _ _ _ h => h) rfl (by assumption) ?_ ?_
  rotate_left
  · (intro wS hSw; (try dsimp only at hSw); go_simp; try with_reducible rfl)
  (try simp only [Act.put, List.setIfInBounds_toArray, List.set_cons_zero, List.set_cons_succ])
  refine stepL (i := 1) rfl (by kernel_rfl) (fun K hK => ?_)
  rw [if_pos (by rfl)]
  go_simp
  have bA : Below w.heap.size w (w.alloc (Obj.cells #[] 97)).drew := ((Below.refl _ _).alloc (Nat.le_refl _) _).drew
  have hzA : (w.alloc (Obj.cells #[] 97)).drew.heap.size = w.heap.size + 1 := by show (w.alloc _).heap.size = _; simp
  have hE : (w.alloc (Obj.cells #[] 97)).drew.ownsRow base 97 3 (.slice (some ⟨w.heap.size, 0, none⟩) 0 0) 0 [] := owns_new (cs := []) (n := 0) (Deep.blk_alloc_new w (Obj.cells #[] 97)) rfl (Nat.zero_le _) hzW
  refine hK.out _ _ (cell_stays bA c3) (fun hHeld1 => ?_)
  clear hK K hHeld0
  (try simp only [Act.put, List.setIfInBounds_toArray, List.set_cons_zero, List.set_cons_succ])
  refine stepL (i := 8) rfl (by kernel_rfl) (fun K hK => ?_)
  refine step_append_src (by rfl) _ _ _ (by rfl) base 97 ti _ 3 40 Tryz.underlying33 hI hz0 hz1 hz2 rfl (by omega) _ 0 0 [] (by rfl) hE (some ⟨g, 0, none⟩) i cap2 ((txc m.x wv).take (i * 3)) (by rfl) hlt (src1.stays bA) (fun u hu => hone u (List.mem_of_mem_take hu)) (by unfold maxLen; omega) (by omega) (by have := bA.size; omega) ?_
  intro g1 cp1 w1 hown1 hgrow1 hat1 hlt1
  simp only [Nat.zero_add, List.nil_append] at hown1 ⊢
  have k1 : ∀ q, q < w.heap.size → w1.heap[q]? = w.heap[q]? := fun q hq => (hgrow1.block q (by have := bA.size; omega) (by simp; omega)).trans (bA.block q hq)
  have b1 : Below w.heap.size w w1 := ⟨hgrow1.os.trans bA.os, hgrow1.tape.trans bA.tape, hgrow1.output.trans bA.output, by have := hgrow1.size; have := bA.size; omega, k1⟩
  refine hK.out _ _ (cell_stays b1 c3) (fun hHeld2 => ?_)
  clear hK K hHeld1
  (try simp only [Act.put, List.setIfInBounds_toArray, List.set_cons_zero, List.set_cons_succ])
  refine stepL (i := 16) rfl (by kernel_rfl) (fun K hK => ?_)
  refine step_append_src (by rfl) _ _ _ (by rfl) base 97 ti _ 3 40 Tryz.underlying33 hI hz0 hz1 hz2 rfl (by omega) _ i cp1 ((txc m.x wv).take (i * 3)) (by rfl) hown1 (if cap2 = i1 then some ⟨g, 0, none⟩ else some ⟨g, i1 * 3, none⟩) (m.x.length - i1) (cap2 - i1) ((txc m.x wv).drop (i1 * 3)) (by rfl) hld (src2.stays b1) (fun u hu => hone u (List.mem_of_mem_drop hu)) (by unfold maxLen; omega) (by omega) (by have := b1.size; omega) ?_
  intro g2 cp2 w2 hown2 hgrow2 hat2 hlt2
  have hg1 : w.heap.size ≤ g1 := by
    rcases hat1 with e | e
    · omega
    · rw [e]; exact bA.size
  have hg2 : w.heap.size ≤ g2 := by
    rcases hat2 with e | e
    · omega
    · rw [e]; exact b1.size
  have b2 : Below w.heap.size w w2 := ⟨hgrow2.os.trans b1.os, hgrow2.tape.trans b1.tape, hgrow2.output.trans b1.output, by have := hgrow2.size; have := b1.size; omega, fun q hq => (hgrow2.block q (by have := b1.size; omega) (by simp; omega)).trans (k1 q hq)⟩
  have hln : i + (m.x.length - i1) = (m.x.eraseIdx i).length := by have := hi1.out; rw [len_erase _ hil]; omega
  have hln' : i + (m.x.length - (i + 1)) = (m.x.eraseIdx i).length := by rw [len_erase _ hil]; omega
  rw [show (i1 : Nat) = i + 1 from hi1.out, txc_drop_take _ _ hil, hln'] at hown2
  refine hK.out _ _ (cell_stays b2 c3) (fun hHeld3 => ?_)
  clear hK K hHeld2
  (try simp only [Act.put, List.setIfInBounds_toArray, List.set_cons_zero, List.set_cons_succ])
  refine takeL (i := 17) (v := ?_) rfl (by kernel_rfl) (by kernel_rfl) (by kernel_rfl) (fun _ _ _ h => h) rfl (by assumption) ?_ ?_
  rotate_left
  · (intro wS hSw; (try dsimp only at hSw); go_simp; try with_reducible rfl)
  (try simp only [Act.put, List.setIfInBounds_toArray, List.set_cons_zero, List.set_cons_succ])
  refine takeL (i := 18) (v := ?_) rfl (by kernel_rfl) (by kernel_rfl) (by kernel_rfl) (fun _ _ _ h => h) rfl (by assumption) ?_ ?_
  rotate_left
  · (intro wS hSw; (try dsimp only at hSw); go_simp; try with_reducible rfl)
  (try simp only [Act.put, List.setIfInBounds_toArray, List.set_cons_zero, List.set_cons_succ])
  have hB5 := h.box.of_block (b2.block B hBl)
  have q3 := hB5.cell (show 3 < 5 by omega)
  have qf := hB5.frozen 3
  obtain ⟨P, bP⟩ := h.setTx b2 ⟨rfl, rfl, rfl, Nat.le_refl _, fun _ _ _ => rfl⟩ (f := skipI i) (fun j hj => ⟨skip_lt hil (by rw [len_erase _ hil] at hj; exact hj), tAt_erase _ _ _⟩) (fun a b _ _ e => skip_inj e) hown2 (.inr hg2)
  refine wpAnyH_done (by kernel_rfl) ?_ _
  refine lastL (n := 19) rfl rfl ?_
  go_simp
  clear hHeld3 q3 qf hB5 k1 b1 b2 hgrow1 hgrow2 hown1 hown2 hE bA bD src1 src2 hs1
  go_wp2
  all_goals refine bodyPost_end (v := .tuple #[]) (by simp [results, Tryz.results88, go_sem]) rfl ⟨rfl, bP, _, P⟩
end Go.Proofs.YtmecbppblbmchaaGreatDoor

/- The specification's l2abort, on a state behind a pointer. -/
namespace Go.Proofs.YtmecbppblbmchaaGreatDoor
open Go.ChangeShapes Go.WideShapes Go.ChangeAt Go.RowKit Go.Sort
set_option linter.unusedVariables false
set_option maxRecDepth 100000
attribute [local go_sem ↓] Go.wp_at_zero Go.wp_at_succ

set_option maxHeartbeats 4000000 in
theorem l2abort_any (base B s0 s1 : Nat) (vs vt ve : Value) (m : Md) (wv : Nat → Value) (tx : Int) (i : Nat) (w : World) (h : PtrM base w B s0 s1 vs vt ve m wv) (hn : SmallM' m) (hi : IsTx m tx i) :
    Calls Tryz.prog 53 #[.pointer (some ⟨B, 0, none⟩), .int .i64 (i : Int)] w fun e w' => Below base w w' ∧
      ((m.h.length ≠ 3000 ∧ e = .returned (.int .i64 0) ∧ ∃ vt' ve' wv', PtrM base w' B s0 s1 vs vt' ve' (abM m tx i) wv') ∨ (m.h.length = 3000 ∧ e = .returned (.int .i64 2))) := by
  have hil := hi.1
  have hie := hi.2.1
  have hbase := h.base
  have hBl := h.box.lt
  have hhl := hn.h
  have hxl := hn.x
  obtain ⟨a3, cap3, hv3⟩ := owns_sliceM h.own.h
  subst hv3
  obtain ⟨a2, cap2, hv2⟩ := owns_sliceM h.own.x
  subst hv2
  obtain ⟨x0, x1, x2, x3, x4⟩ := h.mbox
  clear x0 x1 x2
  go_enter Tryz.func53, Tryz.ntmps53
  by_cases e3 : m.h.length = 3000
  · have HE : Hid (m.h.length = 3000) := e3
    have hd : ((m.h.length : Int) == 3000) = true := by simp; omega
    clear e3
    go_wp2
    go_ret
    exact ⟨Below.refl _ _, .inr ⟨HE.out, rfl⟩⟩
  · have HE : Hid (m.h.length ≠ 3000) := e3
    have hd : ((m.h.length : Int) == 3000) = false := by rw [beq_eq_false_iff_ne]; omega
    clear e3
    obtain ⟨g, hg, hgb, c0, _⟩ := owns_cell h.own.x (txc_get m.x wv hil).1
    subst hg
    rw [hie] at c0
    have i0 : (0 : Int) ≤ (i : Int) := by omega
    have i1 : (i : Int) < (m.x.length : Int) := by omega
    obtain ⟨ti, hI, hz0, hz1, hz2⟩ := info_parts infoEv
    have hzW : base ≤ w.heap.size := by omega
    have bD := (Below.refl w.heap.size w).drew
    have HI : Hid (IsTx m tx i) := hi
    clear hi hie
    go_wp2_with fail
    refine region_last (fun x => x.cell? ⟨B, 3, none⟩ = some (.slice (some ⟨g, 0, none⟩) m.x.length cap2) ∧ x.cell? ⟨B, 4, none⟩ = some (.slice a3 m.h.length cap3) ∧ x.cell? ⟨g, i * 3, none⟩ = some (.int .i64 tx)) (by kernel_rfl) (by kernel_rfl) (by kernel_rfl) ⟨cell_stays bD x3, cell_stays bD x4, cell_stays bD c0⟩ (fun hHeld0 => ?_)
    simp only [List.dropLast, List.length_cons, List.length_nil, Nat.reduceAdd]
    have hbt := build_evA tx
    refine takeL (i := 0) (v := ?_) rfl (by kernel_rfl) (by kernel_rfl) (by kernel_rfl) (fun _ _ _ h => h) rfl (by assumption) ?_ ?_
    rotate_left
    · (intro wS hSw; (try dsimp only at hSw); go_simp; try with_reducible rfl)
    (try simp only [Act.put, List.setIfInBounds_toArray, List.set_cons_zero, List.set_cons_succ])
    refine takeL (i := 1) (v := ?_) rfl (by kernel_rfl) (by kernel_rfl) (by kernel_rfl) (fun _ _ _ h => h) rfl (by assumption) ?_ ?_
    rotate_left
    · (intro wS hSw; (try dsimp only at hSw); go_simp; try with_reducible rfl)
    (try simp only [Act.put, List.setIfInBounds_toArray, List.set_cons_zero, List.set_cons_succ])
    refine takeL (i := 2) (v := ?_) rfl (by kernel_rfl) (by kernel_rfl) (by kernel_rfl) (fun _ _ _ h => h) rfl (by assumption) ?_ ?_
    rotate_left
    · (intro wS hSw; (try dsimp only at hSw); go_simp; try with_reducible rfl)
    (try simp only [Act.put, List.setIfInBounds_toArray, List.set_cons_zero, List.set_cons_succ])
    refine takeL (i := 3) (v := ?_) rfl (by kernel_rfl) (by kernel_rfl) (by kernel_rfl) (fun _ _ _ h => h) rfl (by assumption) ?_ ?_
    rotate_left
    · (intro wS hSw; (try dsimp only at hSw); go_simp; try with_reducible rfl)
    (try simp only [Act.put, List.setIfInBounds_toArray, List.set_cons_zero, List.set_cons_succ])
    refine takeL (i := 4) (v := ?_) rfl (by kernel_rfl) (by kernel_rfl) (by kernel_rfl) (fun _ _ _ h => h) rfl (by assumption) ?_ ?_
    rotate_left
    · (intro wS hSw; (try dsimp only at hSw); go_simp; try with_reducible rfl)
    (try simp only [Act.put, List.setIfInBounds_toArray, List.set_cons_zero, List.set_cons_succ])
    refine takeL (i := 5) (v := ?_) rfl (by kernel_rfl) (by kernel_rfl) (by kernel_rfl) (fun _ _ _ h => h) rfl (by assumption) ?_ ?_
    rotate_left
    · (intro wS hSw; (try dsimp only at hSw); go_simp; try with_reducible rfl)
    (try simp only [Act.put, List.setIfInBounds_toArray, List.set_cons_zero, List.set_cons_succ])
    refine takeL (i := 6) (v := ?_) rfl (by kernel_rfl) (by kernel_rfl) (by kernel_rfl) (fun _ _ _ h => h) rfl (by assumption) ?_ ?_
    rotate_left
    · (intro wS hSw; (try dsimp only at hSw); go_simp; try with_reducible rfl)
    (try simp only [Act.put, List.setIfInBounds_toArray, List.set_cons_zero, List.set_cons_succ])
    refine takeL (i := 7) (v := ?_) rfl (by kernel_rfl) (by kernel_rfl) (by kernel_rfl) (fun _ _ _ h => h) rfl (by assumption) ?_ ?_
    rotate_left
    · (intro wS hSw; (try dsimp only at hSw); go_simp; try with_reducible rfl)
    (try simp only [Act.put, List.setIfInBounds_toArray, List.set_cons_zero, List.set_cons_succ])
    refine takeL (i := 8) (v := ?_) rfl (by kernel_rfl) (by kernel_rfl) (by kernel_rfl) (fun _ _ _ h => h) rfl (by assumption) ?_ ?_
    rotate_left
    · (intro wS hSw; (try dsimp only at hSw); go_simp; try with_reducible rfl)
    (try simp only [Act.put, List.setIfInBounds_toArray, List.set_cons_zero, List.set_cons_succ])
    refine takeL (i := 9) (v := ?_) rfl (by kernel_rfl) (by kernel_rfl) (by kernel_rfl) (fun _ _ _ h => h) rfl (by assumption) ?_ ?_
    rotate_left
    · (intro wS hSw; (try dsimp only at hSw); go_simp; try with_reducible rfl)
    (try simp only [Act.put, List.setIfInBounds_toArray, List.set_cons_zero, List.set_cons_succ])
    refine takeL (i := 10) (v := ?_) rfl (by kernel_rfl) (by kernel_rfl) (by kernel_rfl) (fun _ _ _ h => h) rfl (by assumption) ?_ ?_
    rotate_left
    · (intro wS hSw; (try dsimp only at hSw); go_simp; try with_reducible rfl)
    (try simp only [Act.put, List.setIfInBounds_toArray, List.set_cons_zero, List.set_cons_succ])
    refine takeL (i := 11) (v := ?_) rfl (by kernel_rfl) (by kernel_rfl) (by kernel_rfl) (fun _ _ _ h => h) rfl (by assumption) ?_ ?_
    rotate_left
    · (intro wS hSw; (try dsimp only at hSw); go_simp; try with_reducible rfl)
    (try simp only [Act.put, List.setIfInBounds_toArray, List.set_cons_zero, List.set_cons_succ])
    refine takeL (i := 12) (v := ?_) rfl (by kernel_rfl) (by kernel_rfl) (by kernel_rfl) (fun _ _ _ h => h) rfl (by assumption) ?_ ?_
    rotate_left
    · (intro wS hSw; (try dsimp only at hSw); go_simp; try with_reducible rfl)
    (try simp only [Act.put, List.setIfInBounds_toArray, List.set_cons_zero, List.set_cons_succ])
    refine takeL (i := 13) (v := ?_) rfl (by kernel_rfl) (by kernel_rfl) (by kernel_rfl) (fun _ _ _ h => h) rfl (by assumption) ?_ ?_
    rotate_left
    · (intro wS hSw; (try dsimp only at hSw); go_simp; try with_reducible rfl)
    (try simp only [Act.put, List.setIfInBounds_toArray, List.set_cons_zero, List.set_cons_succ])
    refine stepL (i := 14) rfl (by kernel_rfl) (fun K hK => ?_)
    rw [if_pos (by rfl)]
    go_simp
    have bA := bD.alloc (by exact Nat.le_refl _) (Obj.cells #[.int .i64 5, .int .i64 tx, .int .i64 0, .int .i64 0, .int .i64 0, .int .i64 0] 101)
    refine hK.out _ _ ⟨cell_stays bA x3, cell_stays bA x4, cell_stays bA c0⟩ (fun hHeld1 => ?_)
    clear hK K hHeld0
    (try simp only [Act.put, List.setIfInBounds_toArray, List.set_cons_zero, List.set_cons_succ])
    refine stepL (i := 15) rfl (by kernel_rfl) (fun K hK => ?_)
    have hXA := owns_keepM h.own.h fun g hg hl => bA.block g hl
    refine step_append_lies _ (by rfl) _ _ _ (by rfl) base 101 ti _ 6 48 Tryz.underlying34 hI hz0 hz1 hz2 rfl (by omega) (.slice a3 m.h.length cap3) m.h.length (hexa m.h) (by rfl) hXA ⟨w.heap.size, 0, none⟩ 1 1 [.int .i64 5, .int .i64 tx, .int .i64 0, .int .i64 0, .int .i64 0, .int .i64 0] (by rfl) (by rfl) (newsM w.drew _ _) (by intro u hu; simp at hu; rcases hu with rfl | rfl | rfl | rfl | rfl | rfl <;> rfl) (by omega) (by unfold maxLen; omega) (by omega) (by simp; omega) (w.heap.size + 1) (by simp) ?_
    intro gg cap5 w5 hown5 hgrow5 hat5 hlt5
    have hnB := h.apart 1 (by omega)
    have hnG : ∀ k, (Value.slice a3 m.h.length cap3).ownBlock = some k → k ≠ g := fun k hk e => h.own.apart 1 0 (by omega) (by omega) (by omega) k hk (by rw [e]; rfl)
    have k5 : ∀ b, b < w.heap.size → (Value.slice a3 m.h.length cap3).ownBlock ≠ some b → ∀ (o : Nat) (u : Value), w.cell? ⟨b, o, none⟩ = some u → w5.cell? ⟨b, o, none⟩ = some u := fun b hb hne o u hu => cell_same (hgrow5.block b (Nat.lt_of_lt_of_le hb (by have := bA.size; exact this)) (fun e => hne e.symm)) (cell_stays bA hu)
    refine hK.out _ _ ⟨k5 B hBl hnB _ _ x3, k5 B hBl hnB _ _ x4, k5 g (cell_lt c0) (fun e => hnG g e rfl) _ _ c0⟩ (fun hHeld2 => ?_)
    clear hK K hHeld1
    (try simp only [Act.put, List.setIfInBounds_toArray, List.set_cons_zero, List.set_cons_succ])
    refine takeL (i := 16) (v := ?_) rfl (by kernel_rfl) (by kernel_rfl) (by kernel_rfl) (fun _ _ _ h => h) rfl (by assumption) ?_ ?_
    rotate_left
    · (intro wS hSw; (try dsimp only at hSw); go_simp; try with_reducible rfl)
    (try simp only [Act.put, List.setIfInBounds_toArray, List.set_cons_zero, List.set_cons_succ])
    refine takeL (i := 17) (v := ?_) rfl (by kernel_rfl) (by kernel_rfl) (by kernel_rfl) (fun _ _ _ h => h) rfl (by assumption) ?_ ?_
    rotate_left
    · (intro wS hSw; (try dsimp only at hSw); go_simp; try with_reducible rfl)
    (try simp only [Act.put, List.setIfInBounds_toArray, List.set_cons_zero, List.set_cons_succ])
    have hB5 := h.box.of_block (show w5.heap[B]? = w.heap[B]? from (hgrow5.block B (Nat.lt_of_lt_of_le hBl (by have := bA.size; exact this)) (fun e => hnB e.symm)).trans (bA.block B hBl))
    have q4 := hB5.cell (show 4 < 5 by omega)
    have qf := hB5.frozen 4
    obtain ⟨P7, bP7⟩ := h.pushEv (x := ⟨5, tx, 0, 0, 0, 0⟩) bA hgrow5 hown5 (by rcases hat5 with e | e; exact .inl e; exact .inr (by omega))
    refine wpAnyH_done (by kernel_rfl) ?_ _
    refine lastL (n := 18) rfl rfl ?_
    go_simp
    clear hHeld2 q4 qf hB5 k5 hnB hnG hlt5 hat5 hgrow5 hown5 hXA bA bD hbt hI hz0 hz1 hz2 c0 x3 x4 h hd
    have hz7 := bP7.size
    go_wp2_with fail
    refine (l2drop_any base B s0 s1 _ _ _ _ wv i _ P7 hxl hil).mono ?_
    rintro e w8 ⟨rfl, hb8, vt', P8⟩
    have b8 := bP7.trans hb8
    clear P7 hb8 bP7
    go_wp2
    go_ret
    exact ⟨b8, .inl ⟨HE.out, rfl, vt', _, _, P8⟩⟩
end Go.Proofs.YtmecbppblbmchaaGreatDoor
