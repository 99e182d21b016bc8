/- Both Covered functions. -/
import Derived.Test.YtnfeijlljjdiiaaA0
import Derived.Test.YtnfeijlljjdiiaaSays
import Derived.Test.YtnfeijlljjdiiaaSortInt
namespace Go.Proofs.Ytnfeijlljjdiiaa
open Go.ChangeShapes Go.WideShapes Go.ChangeAt Go.RowKit
set_option linter.unusedVariables false
set_option maxRecDepth 100000
attribute [local go_sem ↓] Go.wp_at_zero Go.wp_at_succ

/-- The two have a number in common. -/
def Comm (a b : List Int) : Prop := ∃ i, i < b.length ∧ iAt b i ∈ a
/-- x is covered against y. -/
def Cov (x y : Ac) : Prop := x.s = true ∨ Comm x.rows y.rows

theorem iAt_in {l : List Int} {i : Nat} (hi : i < l.length) : iAt l i ∈ l := by
  have e : iAt l i = l[i] := by simp [iAt, List.getD, List.getElem?_eq_getElem hi]
  rw [e]; exact List.getElem_mem hi
theorem iAt_of {l : List Int} {x : Int} (h : x ∈ l) : ∃ i, i < l.length ∧ iAt l i = x := by
  obtain ⟨i, hi, e⟩ := List.getElem_of_mem h
  exact ⟨i, hi, by simp [iAt, List.getD, List.getElem?_eq_getElem hi, e]⟩

/-- Is it in the sorted list? -/
theorem inList_any (B : Nat) (qa : Option Addr) (qc : Nat) (L : List Int) (x : Int) (w : World) {lo hi : Nat} (hb : w.cell? ⟨B, 0, none⟩ = some (.slice qa L.length qc)) (h : IntsAt lo hi w (.slice qa L.length qc) L) (hn : L.length ≤ 1048576) (hs : L.Pairwise (· ≤ ·)) :
    Calls Try.prog 19 #[.int .i64 x, .pointer (some ⟨B, 0, none⟩)] w fun e w' => e = .returned (.bool (decide (x ∈ L))) ∧ Below w.heap.size w w' := by
  obtain ⟨A, hA⟩ : ∃ A, decide (x ∈ L) = A := ⟨_, rfl⟩
  have hS := searchI_any qa qc L x w h hn hs
  rw [hA] at hS ⊢
  clear hs h hA
  go_enter Try.func19, Try.ntmps19
  go_wp2_with fail
  refine hS.mono ?_
  rintro e w1 ⟨⟨k, rfl⟩, hb1⟩
  go_wp2
  go_ret
  exact ⟨rfl, hb1⟩

set_option maxHeartbeats 2000000 in
theorem idxCommon_any (B : Nat) (qa : Option Addr) (qc : Nat) (L : List Int) (v : Value) (l : List Int) (w : World) {lo hi lo' hi' : Nat} (hb : w.cell? ⟨B, 0, none⟩ = some (.slice qa L.length qc)) (h : IntsAt lo hi w (.slice qa L.length qc) L) (hn : L.length ≤ 1048576) (hs : L.Pairwise (· ≤ ·)) (hl : IntsAt lo' hi' w v l) :
    Calls Try.prog 24 #[v, .func (.func 19) #[] #[.pointer (some ⟨B, 0, none⟩)]] w fun e w' => (∃ x : Int, e = .returned (.int .i64 x) ∧ ((x = -1 ∧ ¬ Comm L l) ∨ (0 ≤ x ∧ Comm L l))) ∧ Below w.heap.size w w' := by
  obtain ⟨a, cap, rfl, hm, hc⟩ := hl
  unfold maxLen at hm
  have HI : Hid (∀ x W, Below w.heap.size w W → Calls Try.prog 19 #[.int .i64 x, .pointer (some ⟨B, 0, none⟩)] W fun e w' => e = .returned (.bool (decide (x ∈ L))) ∧ Below W.heap.size W w') := fun x W hW => inList_any B qa qc L x W (cell_stays hW hb) (h.stays hW) hn hs
  clear h hs hb
  go_enter Try.func24, Try.ntmps24
  go_wp2
  go_loopw [8] (fun i wr => ∃ k : Nat, k ≤ l.length ∧ i = .int .i64 k ∧ Below w.heap.size w wr ∧ Hid (∀ j, j < k → iAt l j ∉ L)) (fun i _ => l.length - (intOf i).toNat)
  case atStart => exact ⟨0, Nat.zero_le _, rfl, Below.refl _ _, fun j hj => absurd hj (Nat.not_lt_zero _)⟩
  case round =>
    rename World => wo
    obtain ⟨k, hk, rfl, hb, hs⟩ := hrel
    by_cases hlt : k < l.length
    · obtain ⟨b, off, rfl, hlo, hhi, hcc⟩ := hc (by omega)
      have c0 := cell_stays hb (hcc k hlt)
      have i0 : (0 : Int) ≤ (k : Int) := by omega
      have i1 : (k : Int) < (l.length : Int) := by omega
      clear hc hcc
      have hC := HI.out (iAt l k) wo hb
      obtain ⟨A, hA⟩ : ∃ A, decide (iAt l k ∈ L) = A := ⟨_, rfl⟩
      rw [hA] at hC
      cases A with
      | true =>
        have hf : Comm L l := ⟨k, hlt, of_decide_eq_true hA⟩
        clear hs hA
        change Hid _ at hf
        go_wp2_with fail
        refine hC.mono ?_
        rintro e w1 ⟨rfl, hb1⟩
        go_wp2
        go_ret
        exact ⟨⟨_, rfl, .inr ⟨i0, hf.out⟩⟩, hb.trans (hb1.mono hb.size)⟩
      | false =>
        have hs2 : Hid (∀ j, j < k + 1 → iAt l j ∉ L) := fun j hj => by
          by_cases e : j = k
          · subst e; exact of_decide_eq_false hA
          · exact hs.out j (by omega)
        clear hs hA
        go_wp2_with fail
        refine hC.mono ?_
        rintro e w1 ⟨rfl, hb1⟩
        go_wp2
        go_roundw
        case rel => exact ⟨k + 1, by omega, by go_num, hb.trans (hb1.mono hb.size), hs2⟩
        case measure => simp [intOf]; omega
    · have hf : ¬ Comm L l := by rintro ⟨i, h1, h2⟩; exact hs.out i (by omega) h2
      clear hs hc
      change Hid _ at hf
      go_wp2
      go_ret
      exact ⟨⟨_, rfl, .inl ⟨rfl, hf.out⟩⟩, hb⟩

theorem hasCommon_any (B : Nat) (qa : Option Addr) (qc : Nat) (L : List Int) (v : Value) (l : List Int) (w : World) {lo hi lo' hi' : Nat} (hb : w.cell? ⟨B, 0, none⟩ = some (.slice qa L.length qc)) (h : IntsAt lo hi w (.slice qa L.length qc) L) (hn : L.length ≤ 1048576) (hs : L.Pairwise (· ≤ ·)) (hl : IntsAt lo' hi' w v l) :
    Calls Try.prog 18 #[v, .func (.func 19) #[] #[.pointer (some ⟨B, 0, none⟩)]] w fun e w' => Says e (Comm L l) ∧ Below w.heap.size w w' := by
  have hI := idxCommon_any B qa qc L v l w hb h hn hs hl
  obtain ⟨a, cap, hv⟩ : ∃ a cap, v = .slice a l.length cap := by obtain ⟨a, cap, h1, _⟩ := hl; exact ⟨a, cap, h1⟩
  subst hv
  obtain ⟨O, hO⟩ : ∃ O, Comm L l = O := ⟨_, rfl⟩
  rw [hO] at hI ⊢
  clear hO hs hb h
  go_enter Try.func18, Try.ntmps18
  go_wp2_with fail
  refine hI.mono ?_
  rintro e w1 ⟨⟨x, rfl, hx⟩, hb1⟩
  rcases hx with ⟨rfl, ht⟩ | ⟨h0, ht⟩
  · have HS : Hid (Says (.returned (.bool false)) O) := says_no ht
    clear ht
    go_wp2
    go_ret
    exact ⟨HS.out, hb1⟩
  · have HS : Hid (Says (.returned (.bool true)) O) := says_yes ht
    clear ht
    go_wp2
    go_ret
    exact ⟨HS.out, hb1⟩

theorem comm_srt (a b : List Int) : Comm (srtI a) b ↔ Comm a b := by
  unfold Comm
  constructor
  · rintro ⟨i, h1, h2⟩; exact ⟨i, h1, (srtI_mem _ _).1 h2⟩
  · rintro ⟨i, h1, h2⟩; exact ⟨i, h1, (srtI_mem _ _).2 h2⟩

set_option maxHeartbeats 2000000 in
theorem haveCommon_any (v u : Value) (a b : List Int) (w : World) {lo hi lo' hi' : Nat} (ha : IntsAt lo hi w v a) (hb : IntsAt lo' hi' w u b) (hn : a.length ≤ 1048576) :
    Calls Try.prog 15 #[v, u] w fun e w' => Says e (Comm a b) ∧ Below w.heap.size w w' := by
  obtain ⟨p, c, hv⟩ : ∃ p cap, v = .slice p a.length cap := by obtain ⟨p, cap, h1, _⟩ := ha; exact ⟨p, cap, h1⟩
  obtain ⟨p', c', hu⟩ : ∃ p cap, u = .slice p b.length cap := by obtain ⟨p, cap, h1, _⟩ := hb; exact ⟨p, cap, h1⟩
  subst hv hu
  have hL := comm_srt a b
  change Hid _ at hL
  go_enter Try.func15, Try.ntmps15
  go_wp2_with fail
  refine (values_any p a.length c w).mono ?_
  rintro e w1 ⟨rfl, rfl⟩
  go_wp2_with fail
  refine (sortedVals_any p c a w ha hn).mono ?_
  rintro e w2 ⟨qa, qc, rfl, hq, hb2⟩
  have bB := (Below.refl w2.heap.size w2).alloc (Nat.le_refl _) (Obj.cells #[.slice qa a.length qc] 22)
  have b3 := hb2.trans (bB.mono hb2.size)
  have x0 : (w2.alloc (Obj.cells #[.slice qa a.length qc] 22)).cell? ⟨w2.heap.size, 0, none⟩ = some (.slice qa a.length qc) := by simp [go_sem]
  have hq3 := hq.stays bB
  have hl3 := hb.stays b3
  go_wp2_with fail
  generalize w2.alloc (Obj.cells #[.slice qa a.length qc] 22) = W3 at *
  have e1 := srtI_len a
  refine (hasCommon_any w2.heap.size qa qc (srtI a) _ b _ (by rw [e1]; exact x0) (by rw [e1]; exact hq3) (by rw [e1]; exact hn) (srtI_up a) hl3).mono ?_
  rintro e w4 ⟨⟨q, rfl, hq4⟩, hb4⟩
  have HS : Hid (Says (.returned (.bool q)) (Comm a b)) := ⟨_, rfl, hq4.trans hL.out⟩
  clear hq4 hL
  go_wp2
  go_ret
  exact ⟨HS.out, b3.trans (hb4.mono b3.size)⟩

set_option maxHeartbeats 2000000 in
theorem implCovered_any (x y : Ac) (v u : Value) (w : World) {lo hi lo' hi' : Nat} (hv : IntsAt lo hi w v x.rows) (hu : IntsAt lo' hi' w u y.rows) (hnx : x.rows.length ≤ 1048576) (hny : y.rows.length ≤ 1048576) :
    Calls Try.prog 11 #[.agg #[.int .i64 x.n, .bool x.w, .int .i64 x.t, .bool x.c, .int .i64 x.r, .bool x.s, v], .agg #[.int .i64 y.n, .bool y.w, .int .i64 y.t, .bool y.c, .int .i64 y.r, .bool y.s, u]] w fun e w' => Says e (Cov x y) ∧ Below w.heap.size w w' := by
  obtain ⟨p, c, hv1⟩ : ∃ p cap, v = .slice p x.rows.length cap := by obtain ⟨p, cap, h1, _⟩ := hv; exact ⟨p, cap, h1⟩
  obtain ⟨p', c', hu1⟩ : ∃ p cap, u = .slice p y.rows.length cap := by obtain ⟨p, cap, h1, _⟩ := hu; exact ⟨p, cap, h1⟩
  subst hv1 hu1
  have hbx : Below w.heap.size w ((w.alloc (Obj.cells #[.int .i64 x.n, .bool x.w, .int .i64 x.t, .bool x.c, .int .i64 x.r, .bool x.s, Value.slice p x.rows.length c] 27)).alloc (Obj.cells #[.int .i64 y.n, .bool y.w, .int .i64 y.t, .bool y.c, .int .i64 y.r, .bool y.s, Value.slice p' y.rows.length c'] 27)) := ((Below.refl _ _).alloc (Nat.le_refl _) _).alloc (by simp) _
  have hC := haveCommon_any _ _ x.rows y.rows _ (hv.stays hbx) (hu.stays hbx) hnx
  obtain ⟨O, hO⟩ : ∃ O, Comm x.rows y.rows = O := ⟨_, rfl⟩
  have hD : Cov x y = (x.s = true ∨ O) := by rw [← hO]; rfl
  rw [hD]
  rw [hO] at hC
  clear hO hD hv hu
  obtain ⟨xs, hxs⟩ : ∃ s, x.s = s := ⟨_, rfl⟩
  rw [hxs] at hbx hC ⊢
  cases xs with
  | true =>
    have HS : Hid (Says (.returned (.bool true)) (true = true ∨ O)) := says_yes (.inl rfl)
    obtain ⟨Q, hQ⟩ : ∃ Q, (true = true ∨ O) = Q := ⟨_, rfl⟩
    rw [hQ] at HS ⊢
    clear hQ hC
    go_enter Try.func11, Try.ntmps11
    go_wp2
    go_ret
    exact ⟨HS.out, hbx⟩
  | false =>
    have HQ : Hid (∀ e, Says e O → Says e (false = true ∨ O)) := fun e h => by simpa using h
    obtain ⟨Q, hQ⟩ : ∃ Q, (false = true ∨ O) = Q := ⟨_, rfl⟩
    rw [hQ] at HQ ⊢
    clear hQ
    go_enter Try.func11, Try.ntmps11
    go_wp2_with fail
    refine hC.mono ?_
    rintro e w2 ⟨⟨q, rfl, hq⟩, hb2⟩
    have HS : Hid (Says (.returned (.bool q)) Q) := HQ.out _ ⟨_, rfl, hq⟩
    clear hq HQ
    go_wp2
    go_ret
    exact ⟨HS.out, hbx.trans (hb2.mono hbx.size)⟩

set_option maxHeartbeats 4000000 in
theorem specCovered_any (x y : Ac) (v u : Value) (w : World) {lo hi lo' hi' : Nat} (hv : IntsAt lo hi w v x.rows) (hu : IntsAt lo' hi' w u y.rows) :
    Calls Try.prog 10 #[.agg #[.int .i64 x.n, .bool x.w, .int .i64 x.t, .bool x.c, .int .i64 x.r, .bool x.s, v], .agg #[.int .i64 y.n, .bool y.w, .int .i64 y.t, .bool y.c, .int .i64 y.r, .bool y.s, u]] w fun e w' => Says e (Cov x y) ∧ Below w.heap.size w w' := by
  obtain ⟨p, c, rfl, hm, hc⟩ := hv
  obtain ⟨p', c', rfl, hm', hc'⟩ := hu
  unfold maxLen at hm hm'
  have hbx : Below w.heap.size w ((w.alloc (Obj.cells #[.int .i64 x.n, .bool x.w, .int .i64 x.t, .bool x.c, .int .i64 x.r, .bool x.s, Value.slice p x.rows.length c] 27)).alloc (Obj.cells #[.int .i64 y.n, .bool y.w, .int .i64 y.t, .bool y.c, .int .i64 y.r, .bool y.s, Value.slice p' y.rows.length c'] 27)) := ((Below.refl _ _).alloc (Nat.le_refl _) _).alloc (by simp) _
  have z6 : ((w.alloc (Obj.cells #[.int .i64 x.n, .bool x.w, .int .i64 x.t, .bool x.c, .int .i64 x.r, .bool x.s, Value.slice p x.rows.length c] 27)).alloc (Obj.cells #[.int .i64 y.n, .bool y.w, .int .i64 y.t, .bool y.c, .int .i64 y.r, .bool y.s, Value.slice p' y.rows.length c'] 27)).cell? ⟨w.heap.size, 6, none⟩ = some (.slice p x.rows.length c) := by simp [go_sem]
  have y6 : ((w.alloc (Obj.cells #[.int .i64 x.n, .bool x.w, .int .i64 x.t, .bool x.c, .int .i64 x.r, .bool x.s, Value.slice p x.rows.length c] 27)).alloc (Obj.cells #[.int .i64 y.n, .bool y.w, .int .i64 y.t, .bool y.c, .int .i64 y.r, .bool y.s, Value.slice p' y.rows.length c'] 27)).cell? ⟨w.heap.size + 1, 6, none⟩ = some (.slice p' y.rows.length c') := by simp [go_sem]
  have HX : Hid (∀ k, k < x.rows.length → ∃ b off, p = some ⟨b, off, none⟩ ∧ w.cell? ⟨b, off + k, none⟩ = some (.int .i64 (iAt x.rows k))) := fun k hk => by obtain ⟨b, off, h1, _, _, h2⟩ := hc (by omega); exact ⟨b, off, h1, h2 k hk⟩
  have HY : Hid (∀ k, k < y.rows.length → ∃ b off, p' = some ⟨b, off, none⟩ ∧ w.cell? ⟨b, off + k, none⟩ = some (.int .i64 (iAt y.rows k))) := fun k hk => by obtain ⟨b, off, h1, _, _, h2⟩ := hc' (by omega); exact ⟨b, off, h1, h2 k hk⟩
  clear hc hc'
  by_cases hs : x.s = true
  · have HS : Hid (Says (.returned (.bool true)) (Cov x y)) := says_yes (.inl hs)
    obtain ⟨Q, hQ⟩ : ∃ Q, Cov x y = Q := ⟨_, rfl⟩
    rw [hQ] at HS ⊢
    clear hQ HX HY
    rw [hs] at hbx ⊢
    clear hs z6 y6
    go_enter Try.func10, Try.ntmps10
    go_wp2
    go_ret
    exact ⟨HS.out, hbx⟩
  · have hs' : x.s = false := by simpa using hs
    have HYes : Hid (∀ i j, i < x.rows.length → j < y.rows.length → iAt x.rows i = iAt y.rows j → Says (.returned (.bool true)) (Cov x y)) := fun i j hi hj e => says_yes (.inr ⟨j, hj, by rw [← e]; exact iAt_in hi⟩)
    have HNo : Hid ((∀ i, i < x.rows.length → ∀ j, j < y.rows.length → iAt x.rows i ≠ iAt y.rows j) → Says (.returned (.bool false)) (Cov x y)) := fun h => says_no (by
      rintro (h1 | ⟨j, hj, hm⟩)
      · exact hs h1
      · obtain ⟨i, hi, e⟩ := iAt_of hm
        exact h i hi j hj e)
    obtain ⟨Q, hQ⟩ : ∃ Q, Cov x y = Q := ⟨_, rfl⟩
    rw [hQ] at HYes HNo ⊢
    clear hQ hs
    rw [hs'] at hbx z6 y6 ⊢
    clear hs'
    go_enter Try.func10, Try.ntmps10
    go_wp2
    generalize (w.alloc (Obj.cells #[.int .i64 x.n, .bool x.w, .int .i64 x.t, .bool x.c, .int .i64 x.r, .bool false, Value.slice p x.rows.length c] 27)).alloc (Obj.cells #[.int .i64 y.n, .bool y.w, .int .i64 y.t, .bool y.c, .int .i64 y.r, .bool y.s, Value.slice p' y.rows.length c'] 27) = W at *
    go_loopw [5] (fun i wr => ∃ k : Nat, k ≤ x.rows.length ∧ i = .int .i64 k ∧ Below W.heap.size W wr ∧ Hid (∀ i, i < k → ∀ j, j < y.rows.length → iAt x.rows i ≠ iAt y.rows j)) (fun i _ => x.rows.length - (intOf i).toNat)
    case atStart => exact ⟨0, Nat.zero_le _, rfl, Below.refl _ _, fun j hj => absurd hj (Nat.not_lt_zero _)⟩
    case round =>
      obtain ⟨k, hk, rfl, hb, hn⟩ := hrel
      generalize wr = wo at *
      have z6' := cell_stays hb z6
      have y6' := cell_stays hb y6
      have bO := hbx.trans (hb.mono hbx.size)
      by_cases hlt : k < x.rows.length
      · obtain ⟨b, off, rfl, hx0⟩ := HX.out k hlt
        have hx1 := cell_stays bO hx0
        have i0 : (0 : Int) ≤ (k : Int) := by omega
        have i1 : (k : Int) < (x.rows.length : Int) := by omega
        go_wp2
        go_loopw [6] (fun i wr => ∃ q : Nat, q ≤ y.rows.length ∧ i = .int .i64 q ∧ Below wo.heap.size wo wr ∧ Hid (∀ j, j < q → iAt x.rows k ≠ iAt y.rows j)) (fun i _ => y.rows.length - (intOf i).toNat)
        case atStart => exact ⟨0, Nat.zero_le _, rfl, Below.refl _ _, fun j hj => absurd hj (Nat.not_lt_zero _)⟩
        case round =>
          obtain ⟨q, hq, rfl, hb2, hn2⟩ := hrel
          have z7 := cell_stays hb2 z6'
          have y7 := cell_stays hb2 y6'
          have hx2 := cell_stays hb2 hx1
          by_cases hlt2 : q < y.rows.length
          · obtain ⟨b', off', rfl, hy0⟩ := HY.out q hlt2
            have hy1 := cell_stays hb2 (cell_stays bO hy0)
            have j0 : (0 : Int) ≤ (q : Int) := by omega
            have j1 : (q : Int) < (y.rows.length : Int) := by omega
            have kz := cell_regrown z7
            have ky := cell_regrown y7
            have kx := cell_regrown hx2
            have kw := cell_regrown hy1
            obtain ⟨A, hA⟩ : ∃ A, (iAt x.rows k == iAt y.rows q) = A := ⟨_, rfl⟩
            clear z6 y6 z6' y6' hx0 hx1 hy0
            cases A with
            | true =>
              have HS : Hid (Says (.returned (.bool true)) Q) := HYes.out k q hlt hlt2 (by simpa using hA)
              clear hn hn2
              go_wp2_with fail
              clear z7 y7 hx2 hy1
              refine wp_region_quiet_below (by kernel_rfl) (by kernel_rfl) ?_
              repeat (go_big_quiet_step (fail))
              refine wpQuiet_nil ?_
              intro w4 hw4
              obtain ⟨⟨dq, osq⟩, hw5⟩ := hw4
              have hb4 : Below _ _ w4 := hw5 ▸ below_regrown _ dq osq
              clear hw5 kz ky kx kw
              go_wp2
              go_ret
              exact ⟨HS.out, (bO.trans (hb2.mono bO.size)).trans (hb4.mono (by have := bO.size; have := hb2.size; omega))⟩
            | false =>
              have hn3 : Hid (∀ j, j < q + 1 → iAt x.rows k ≠ iAt y.rows j) := fun j hj => by
                by_cases e : j = q
                · subst e; simpa using hA
                · exact hn2.out j (by omega)
              clear hn2
              go_wp2_with fail
              clear z7 y7 hx2 hy1
              refine wp_region_quiet_below (by kernel_rfl) (by kernel_rfl) ?_
              repeat (go_big_quiet_step (fail))
              refine wpQuiet_nil ?_
              intro w4 hw4
              obtain ⟨⟨dq, osq⟩, hw5⟩ := hw4
              have hb4 : Below _ _ w4 := hw5 ▸ below_regrown _ dq osq
              clear hw5 kz ky kx kw
              go_wp2
              go_roundw
              case rel => exact ⟨q + 1, by omega, by go_num, hb2.trans (hb4.mono hb2.size), hn3⟩
              case measure => simp [intOf]; omega
          · have hn3 : Hid (∀ i, i < k + 1 → ∀ j, j < y.rows.length → iAt x.rows i ≠ iAt y.rows j) := fun i hi => by
              by_cases e : i = k
              · subst e; exact fun j hj => hn2.out j (by omega)
              · exact hn.out i (by omega)
            clear hn hn2
            go_wp2
            go_roundw
            case rel => exact ⟨k + 1, by omega, by go_num, hb.trans (hb2.mono hb.size), hn3⟩
            case measure => simp [intOf]; omega
      · have HS : Hid (Says (.returned (.bool false)) Q) := HNo.out fun i hi => hn.out i (by omega)
        clear hn
        go_wp2
        go_ret
        exact ⟨HS.out, bO⟩
end Go.Proofs.Ytnfeijlljjdiiaa
