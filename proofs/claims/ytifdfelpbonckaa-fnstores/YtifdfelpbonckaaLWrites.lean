/- spec.l1writes, spec.DrawInstall: some store, an hour, some rows. -/
import Derived.Test.YtifdfelpbonckaaLDrawAt
import Derived.Test.YtifdfelpbonckaaState
import Derived.Test.YtifdfelpbonckaaRData
import Derived.Test.YtifdfelpbonckaaShelf
namespace Go.Proofs.Ytifdfelpbonckaa
open Go.ChangeShapes Go.WideShapes Go.ChangeAt Go.RowKit Go.Maps Go.Sort
set_option linter.unusedVariables false
set_option maxRecDepth 100000
attribute [local go_sem ↓] Go.wp_at_zero Go.wp_at_succ

/-- While rows are drawn: the cursor, the rows. -/
structure WR (w : World) (cb : Nat) (v : Value) (rs : List Rw) (x : World) : Prop where
  g : w.grownBy x (some cb)
  cu : Cur x cb
  own : x.ownsRow w.heap.size 38 3 v rs.length (flat rs)
theorem WR.go {w : World} {cb : Nat} {v : Value} {rs : List Rw} {x y : World} (h : WR w cb v rs x) (hcb : cb < w.heap.size) (hg : x.grownBy y (some cb)) (hc : Cur y cb) : WR w cb v rs y :=
  ⟨gb_tr h.g hg, hc, owns_keep h.own fun g hg' hl => hg.block g hl (by intro e; injection e with e; have := (owns_lt h.own hg').1; omega)⟩
theorem WfRw.snoc {rs : List Rw} (h : WfRw rs) {x : Rw} (ht : wf x.t) (hr : wf x.r) : WfRw (rs ++ [x]) := fun i hi => by
  rw [List.length_append, List.length_singleton] at hi
  by_cases e : i < rs.length
  · have : rAt (rs ++ [x]) i = rAt rs i := by simp [rAt, List.getElem?_append_left e]
    rw [this]; exact h i e
  · obtain rfl : i = rs.length := by omega
    have : rAt (rs ++ [x]) rs.length = x := by simp [rAt]
    rw [this]; exact ⟨ht, hr⟩

set_option maxHeartbeats 4000000 in
theorem l1writes_any (cb : Nat) (w : World) (hc : Cur w cb) :
    Calls Try.prog 30 #[.pointer (some ⟨cb, 0, none⟩)] w fun e w' => ∃ v rs, e = .returned v ∧ WR w cb v rs w' ∧ rs.length ≤ 4 ∧ WfRw rs := by
  have hcl := hc.lt
  obtain ⟨i0, hi, hz0, hz1, hz2⟩ := info_parts infoRow
  have hbr := build_row
  go_enter Try.func30, Try.ntmps30
  go_wp2_with fail
  refine (l1Below_any cb 5 _ hc).mono ?_
  rintro e w1 ⟨⟨x, rfl, hx0, hx1⟩, hc1, hg1⟩
  have hx2 := hx1 (by omega)
  have hD : WR w cb (.slice none 0 0) [] w1 := ⟨hg1, hc1, World.ownsRow_nil _ _ _ _⟩
  clear hg1 hx1 hc hc1
  go_wp2_with fail
  go_loopw [3, 4] (fun v k wr => ∃ (n : Nat) (y : Int) (rs : List Rw), rs.length = n ∧ k = .int .i64 y ∧ 0 ≤ y ∧ y + n ≤ 4 ∧ WR w cb v rs wr ∧ WfRw rs) (fun _ k _ => (intOf k).toNat)
  case atStart => exact ⟨0, x, [], rfl, rfl, hx0, by omega, hD, fun i hi => absurd hi (Nat.not_lt_zero _)⟩
  case round =>
    rename World => wo
    clear hD hx0 hx2
    obtain ⟨n, y, rs, hn, rfl, hy0, hyn, hR, hW⟩ := hrel
    have HW : Hid (WfRw rs) := hW
    have HN : Hid (rs.length = n) := hn
    clear hW hn
    by_cases hy : 0 < y
    · go_wp2_with fail
      refine (l1keyBent_any cb _ hR.cu).mono ?_
      rintro e w2 ⟨⟨t, r, rfl, wt, wr'⟩, hc2, hg2⟩
      have HT : Hid (wf t ∧ wf r) := ⟨wt, wr'⟩
      have hR2 := hR.go hcl hg2 hc2
      clear hR hg2 hc2 wt wr'
      go_wp2_with fail
      refine (l1Below_any cb 9 _ hR2.cu).mono ?_
      rintro e w3 ⟨⟨x3, rfl, hx30, hx31⟩, hc3, hg3⟩
      have hR3 := hR2.go hcl hg3 hc3
      have hx32 := hx31 (by omega)
      have hw3 : IntKind.i64.wrap (x3 - 2) = x3 - 2 := by rw [IntKind.wrap_i64]; omega
      clear hR2 hg3 hc3 hx31
      have hown := hR3.own
      have hsz : w.heap.size ≤ w3.heap.size := hR3.g.size
      rw [HN.out] at hown
      go_wp2_with (at_builtin; refine wpList_append_lies _ rfl _ _ 26 rfl w.heap.size 38 i0 _ 3 24 Try.underlying26 hi hz0 hz1 hz2 rfl (by decide) _ n (flat rs) rfl (hown.alloc _) ⟨w3.heap.size, 0, none⟩ 1 1 (cells3 ⟨t, r, x3 - 2⟩) rfl rfl (World.news_of_block (heap_alloc_new w3 _)) (news3_one _ _ _) (by omega) (by unfold maxLen; omega) (by omega) (by simp; omega) (w3.heap.size + 1) (by simp) ?_; intro g cap4 w4 hown4 hgrow hat hlt4)
      have hz4 : w3.heap.size + 1 ≤ w4.heap.size := by have := hgrow.size; simpa using this
      have hlow : ∀ k, k < w.heap.size → w4.heap[k]? = w3.heap[k]? := fun k hk => (hgrow.block k (by simp; omega) (fun e => by have := (owns_lt hown (g := k) e.symm).1; omega)).trans (Below.heap_alloc w3 _ k (by omega))
      have hR4 : WR w cb (.slice (some ⟨g, 0, none⟩) (n + 1) cap4) (rs ++ [⟨t, r, x3 - 2⟩]) w4 :=
        ⟨⟨hgrow.os.trans hR3.g.os, hgrow.tape.trans hR3.g.tape, hgrow.output.trans hR3.g.output, by omega, fun j hj hne => (hlow j hj).trans (hR3.g.block j hj hne)⟩, hR3.cu.low fun k hk => hlow k (by omega), by rw [flat_snoc, List.length_append, HN.out]; simpa using hown4⟩
      go_roundw
      case rel => exact ⟨n + 1, y - 1, rs ++ [⟨t, r, x3 - 2⟩], by rw [List.length_append, HN.out]; rfl, by go_num, by omega, by omega, hR4, HW.out.snoc HT.out.1 HT.out.2⟩
      case measure => simp [intOf]; omega
    · have hR2 := hR
      have hnl := HN.out
      go_wp2
      go_ret
      exact ⟨_, rfl, rs, hR2, by omega, HW.out⟩

set_option maxHeartbeats 2000000 in
theorem drawInstall_any (a : Option Addr) (n cap : Nat) (w : World) (hc : BytesIn w a n) :
    Calls Try.prog 6 #[.slice a n cap] w fun e w' => (∃ v l h u rs, e = .returned (.tuple #[.agg #[v], .int .i64 h, u]) ∧ Drawn w' v l ∧ RowsAt 0 w'.heap.size w' u rs ∧ rs.length ≤ 4 ∧ WfRw rs) ∧ Below w.heap.size w w' := by
  have bA : Below w.heap.size w (w.alloc (Obj.cells #[.slice none 0 0] 25)) := (Below.refl _ _).alloc (Nat.le_refl _) _
  go_enter Try.func6, Try.ntmps6
  go_wp2_with fail
  refine (l1New_any a n cap _ (hc.stays bA)).mono ?_
  rintro e w1 ⟨rfl, hc1, hb1⟩
  have hz1 := hb1.size
  have hcl := hc1.lt
  simp only [World.size_alloc] at hc1 hcl hz1
  have b1 := bA.trans (hb1.mono bA.size)
  have a0 : w1.cell? ⟨w.heap.size, 0, none⟩ = some (.slice none 0 0) := cell_stays hb1 (by simp [go_sem])
  have f0 : w1.frozen? ⟨w.heap.size, 0, none⟩ = false := by rw [hb1.frozen (by simp)]; simp [go_sem]
  clear hb1 bA
  go_wp2_with fail
  refine (l1bent_any _ _ hc1).mono ?_
  rintro e w2 ⟨v, l, rfl, hC2, hn, hvn, hwf, hk2, hc2, hg2⟩
  have hz2 := hg2.size
  have hB2 := below_alloc w2 (Obj.cells #[v] 25)
  have hg23 := gb_tr hg2 (gb_be _ hB2)
  have hc3 := hc2.stays hB2
  have hC3 := hC2.stays hB2
  have hk3 := hk2.stays hB2
  clear hk2
  obtain ⟨p0, p1⟩ := one_box hg23 (by omega) (by omega) a0 f0
  have s0 : (w2.alloc (Obj.cells #[v] 25)).cell? ⟨w2.heap.size, 0, none⟩ = some v := by simp [go_sem]
  have s1 : (w2.alloc (Obj.cells #[v] 25)).frozen? ⟨w2.heap.size, 0, none⟩ = false := by simp [go_sem]
  have b3 := b1.grown hg23 b1.size (fun k hk => by cases hk; omega)
  have z3 : w2.heap.size < (w2.alloc (Obj.cells #[v] 25)).heap.size := by simp
  obtain ⟨av, cv, rfl⟩ : ∃ av cv, v = .slice av l.length cv := by obtain ⟨av, cv, h1, _⟩ := hC2; exact ⟨av, cv, h1⟩
  go_wp2_with fail
  clear a0 f0 hg2 hg23 hc1 hc2 b1 hB2 hC2
  generalize w2.alloc (Obj.cells #[.slice av l.length cv] 25) = W at *
  refine (l1hours_any _ _ hc3).mono ?_
  rintro e w4 ⟨⟨h, rfl⟩, hc4, hg4⟩
  have hz4 := hg4.size
  have hs4 : ∀ b, w1.heap.size + 3 ≤ b → b < w2.heap.size → b < W.heap.size → w4.heap[b]? = W.heap[b]? := fun b hl hh hlt => hg4.block b hlt (by intro e; injection e with e; omega)
  have hC4 := hC3.keep hs4
  have hk4 := hk3.keep hC3 hs4
  obtain ⟨p0', p1'⟩ := one_box hg4 (by omega) (by omega) p0 p1
  obtain ⟨s0', s1'⟩ := one_box hg4 z3 (by omega) s0 s1
  have b4 := b3.grown hg4 b3.size (fun k hk => by cases hk; omega)
  clear p0 p1 s0 s1 hg4 hc3 b3 hC3 hk3 hs4
  go_wp2_with fail
  refine (l1Once_any _ 3 _ hc4).mono ?_
  rintro e w5 ⟨⟨bo, rfl⟩, hc5, hg5⟩
  have hz5 := hg5.size
  have hs5 : ∀ b, w1.heap.size + 3 ≤ b → b < w2.heap.size → b < w4.heap.size → w5.heap[b]? = w4.heap[b]? := fun b hl hh hlt => hg5.block b hlt (by intro e; injection e with e; omega)
  have hC5 := hC4.keep hs5
  have hk5 := hk4.keep hC4 hs5
  obtain ⟨p0, p1⟩ := one_box hg5 (by omega) (by omega) p0' p1'
  obtain ⟨s0, s1⟩ := one_box hg5 (by omega) (by omega) s0' s1'
  have b5 := b4.grown hg5 b4.size (fun k hk => by cases hk; omega)
  clear p0' p1' s0' s1' hg5 hc4 b4 hC4 hk4 hs5
  cases bo with
  | true =>
    go_wp2_with fail
    have d2 : w5.drew.cell? ⟨w2.heap.size, 0, none⟩ = some (.slice av l.length cv) := s0
    go_region_law (rw [if_pos (by rfl)]; go_simp; go_at_call 30; refine (l1writes_any _ _ (hc5.stays (Below.refl _ _).drew)).mono ?_; rintro e w9 ⟨u9, rs, rfl, hR9, hrn, hrw⟩; have hg9 := gb_tr (gb_be _ (Below.refl w5.heap.size w5).drew) hR9.g; obtain ⟨x0, x1⟩ := one_box hg9 (by omega) (by omega) p0 p1; obtain ⟨v0, v1⟩ := one_box hg9 (by omega) (by omega) s0 s1; simp only [])
    all_goals (
      go_wp2
      refine bodyPost_ret (v := .tuple #[.agg #[.slice av l.length cv], .int .i64 h, u9]) ?_ rfl ⟨⟨_, l, h, u9, rs, rfl, ?_, ?_, hrn, hrw⟩, ?_⟩
      · simp [results, Try.results6, go_sem, x0]
      · have hs9 : ∀ b, w1.heap.size + 3 ≤ b → b < w2.heap.size → b < w5.heap.size → (w9.setCell ⟨w.heap.size, 0, none⟩ (.slice av l.length cv)).heap[b]? = w5.heap[b]? := fun b hl hh hlt => (Below.heap_setCell _ _ _ _ (show b ≠ w.heap.size by omega)).trans (hg9.block b hlt (by intro e; injection e with e; omega))
        exact (hC5.keep hs9).drawn (by rw [size_setCell]; have := hg9.size; omega) hn hvn hwf (hk5.keep hC5 hs9)
      · exact ((OwnR.rows (OwnR.of_ownsRow hR9.own) (by omega)).keep fun b h1 h2 h3 => Below.heap_setCell _ _ _ _ (show b ≠ w.heap.size by have : w5.drew.heap.size = w5.heap.size := rfl; omega)).wide (Nat.zero_le _) (by rw [size_setCell]; exact Nat.le_refl _)
      · have b9 := (b5.drew).grown hR9.g b5.size (fun k hk => by cases hk; omega)
        exact b9.setCell (by simp) _)
  | false =>
    go_wp2_with fail
    refine (l1Below_any _ 9 _ hc5).mono ?_
    rintro e w6 ⟨⟨x6, rfl, hx60, hx61⟩, hc6, hg6⟩
    have hz6 := hg6.size
    have hs6 : ∀ b, w1.heap.size + 3 ≤ b → b < w2.heap.size → b < w5.heap.size → w6.heap[b]? = w5.heap[b]? := fun b hl hh hlt => hg6.block b hlt (by intro e; injection e with e; omega)
    have hC6 := hC5.keep hs6
    have hk6 := hk5.keep hC5 hs6
    obtain ⟨p0', p1'⟩ := one_box hg6 (by omega) (by omega) p0 p1
    obtain ⟨s0', s1'⟩ := one_box hg6 (by omega) (by omega) s0 s1
    have b6 := b5.grown hg6 b5.size (fun k hk => by cases hk; omega)
    clear p0 p1 s0 s1 hg6 hc5 b5 hC5 hk5 hs6 hx61 hx60
    generalize hH : IntKind.i64.wrap (40 + x6) = H6
    go_wp2_with fail
    have d2 : w6.drew.cell? ⟨w2.heap.size, 0, none⟩ = some (.slice av l.length cv) := s0'
    go_region_law (rw [if_pos (by rfl)]; go_simp; go_at_call 30; refine (l1writes_any _ _ (hc6.stays (Below.refl _ _).drew)).mono ?_; rintro e w9 ⟨u9, rs, rfl, hR9, hrn, hrw⟩; have hg9 := gb_tr (gb_be _ (Below.refl w6.heap.size w6).drew) hR9.g; obtain ⟨x0, x1⟩ := one_box hg9 (by omega) (by omega) p0' p1'; obtain ⟨v0, v1⟩ := one_box hg9 (by omega) (by omega) s0' s1'; simp only [])
    all_goals (
      go_wp2
      refine bodyPost_ret (v := .tuple #[.agg #[.slice av l.length cv], .int .i64 H6, u9]) ?_ rfl ⟨⟨_, l, H6, u9, rs, rfl, ?_, ?_, hrn, hrw⟩, ?_⟩
      · simp [results, Try.results6, go_sem, x0]
      · have hs9 : ∀ b, w1.heap.size + 3 ≤ b → b < w2.heap.size → b < w6.heap.size → (w9.setCell ⟨w.heap.size, 0, none⟩ (.slice av l.length cv)).heap[b]? = w6.heap[b]? := fun b hl hh hlt => (Below.heap_setCell _ _ _ _ (show b ≠ w.heap.size by omega)).trans (hg9.block b hlt (by intro e; injection e with e; omega))
        exact (hC6.keep hs9).drawn (by rw [size_setCell]; have := hg9.size; omega) hn hvn hwf (hk6.keep hC6 hs9)
      · exact ((OwnR.rows (OwnR.of_ownsRow hR9.own) (by omega)).keep fun b h1 h2 h3 => Below.heap_setCell _ _ _ _ (show b ≠ w.heap.size by have : w6.drew.heap.size = w6.heap.size := rfl; omega)).wide (Nat.zero_le _) (by rw [size_setCell]; exact Nat.le_refl _)
      · have b9 := (b6.drew).grown hR9.g b6.size (fun k hk => by cases hk; omega)
        exact b9.setCell (by simp) _)
end Go.Proofs.Ytifdfelpbonckaa
