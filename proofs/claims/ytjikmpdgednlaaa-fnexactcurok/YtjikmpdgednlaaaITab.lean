/- The program's tests for rounds and tables; a procedure's body. -/
import Derived.Test.YtjikmpdgednlaaaXTgt
import Derived.Test.YtjikmpdgednlaaaIBnd2
namespace Go.Proofs.Ytjikmpdgednlaaa
open Go.ChangeShapes Go.WideShapes Go.ChangeAt Go.RowKit
set_option linter.unusedVariables false
set_option maxRecDepth 100000
attribute [local go_sem ↓] Go.wp_at_zero Go.wp_at_succ

set_option maxHeartbeats 2000000 in
theorem idxTimes_any (v : Value) (l : List Nd) (w : World) {lo hi : Nat} (h : NodesAt lo hi w v l) :
    Calls Try.prog 80 #[v, .func (.func 67) #[] #[]] w fun e w' => (∃ x : Int, e = .returned (.int .i64 x) ∧ ((x = -1 ∧ timesF l = true) ∨ (0 ≤ x ∧ timesF l = false))) ∧ Below w.heap.size w w' := by
  obtain ⟨a, cap, rfl, hm, hc⟩ := h
  unfold maxLen at hm
  go_enter Try.func80, Try.ntmps80
  go_wp2
  go_loopw [8] (fun i wr => ∃ k : Nat, k ≤ l.length ∧ i = .int .i64 k ∧ Below w.heap.size w wr ∧ Hid (∀ j, j < k → wrongT (ndAt l j) = false)) (fun i _ => l.length - (intOf i).toNat)
  case atStart => exact ⟨0, Nat.zero_le _, rfl, Below.refl _ _, fun j hj => absurd hj (Nat.not_lt_zero _)⟩
  case round =>
    rename World => wo
    obtain ⟨k, hk, rfl, hb, hs⟩ := hrel
    by_cases hlt : k < l.length
    · obtain ⟨b, off, rfl, hlo, hhi, hcc⟩ := hc (by omega)
      obtain ⟨c0, c1, c2, ka, kc, c3, _⟩ := hcc k hlt
      replace c0 := cell_stays hb c0
      replace c1 := cell_stays hb c1
      replace c2 := cell_stays hb c2
      replace c3 := cell_stays hb c3
      have i0 : (0 : Int) ≤ (k : Int) := by omega
      have i1 : (k : Int) < (l.length : Int) := by omega
      clear hc hcc
      go_wp2_with fail
      refine (wrongTimes_any (ndAt l k) _ _ _ _).mono ?_
      rintro e w1 ⟨rfl, hb1⟩
      have hB := hb.trans (hb1.mono hb.size)
      cases hw : wrongT (ndAt l k) with
      | true =>
        have hf := timesF_bad hlt hw
        clear hs
        change Hid _ at hf
        go_wp2
        go_ret
        exact ⟨⟨_, rfl, .inr ⟨i0, hf.out⟩⟩, hB⟩
      | false =>
        have hs2 : Hid (∀ j, j < k + 1 → wrongT (ndAt l j) = false) := fun j hj => by
          by_cases e : j = k
          · subst e; exact hw
          · exact hs.out j (by omega)
        clear hs hw
        go_wp2
        go_roundw
        case rel => exact ⟨k + 1, by omega, by go_num, hB, hs2⟩
        case measure => simp [intOf]; omega
    · have hf := timesF_good (l := l) fun j hj => hs.out j (by omega)
      clear hs
      change Hid _ at hf
      go_wp2
      go_ret
      exact ⟨⟨_, rfl, .inl ⟨rfl, hf.out⟩⟩, hb⟩

theorem hasTimes_any (v : Value) (l : List Nd) (w : World) {lo hi : Nat} (h : NodesAt lo hi w v l) :
    Calls Try.prog 66 #[v, .func (.func 67) #[] #[]] w fun e w' => e = .returned (.bool (!(timesF l))) ∧ Below w.heap.size w w' := by
  obtain ⟨a, cap, hv⟩ : ∃ a cap, v = .slice a l.length cap := by obtain ⟨a, cap, h1, _⟩ := h; exact ⟨a, cap, h1⟩
  subst hv
  obtain ⟨TOP, hTOP⟩ : ∃ r, timesF l = r := ⟨_, rfl⟩
  rw [hTOP]
  go_enter Try.func66, Try.ntmps66
  go_wp2_with fail
  refine (idxTimes_any _ l _ h).mono ?_
  rw [hTOP]
  rintro e w1 ⟨⟨x, rfl, hx⟩, hb⟩
  clear hTOP
  rcases hx with ⟨rfl, ht⟩ | ⟨h0, ht⟩
  · subst ht
    go_wp2
    go_ret
    exact ⟨rfl, hb⟩
  · subst ht
    go_wp2
    go_ret
    exact ⟨rfl, hb⟩

theorem letter_any (t : Int) (w : World) : Calls Try.prog 71 #[.int .i64 t] w fun e w' => e = .returned (.bool (!(decide (t < 0) || decide (3 < t)))) ∧ w' = w := by
  by_cases h1 : 0 ≤ t
  · by_cases h2 : t < 4
    · go_enter Try.func71, Try.ntmps71
      go_wp2
      go_ret
      exact ⟨by simp <;> omega, rfl⟩
    · go_enter Try.func71, Try.ntmps71
      go_wp2
      go_ret
      exact ⟨by simp <;> omega, rfl⟩
  · go_enter Try.func71, Try.ntmps71
    go_wp2
    go_ret
    exact ⟨by simp <;> omega, rfl⟩
theorem table_any (t : Int) (w : World) : Calls Try.prog 72 #[.int .i64 t] w fun e w' => e = .returned (.bool (!(decide (t < 0) || decide (4 < t)))) ∧ w' = w := by
  by_cases h1 : 0 ≤ t
  · by_cases h2 : t < 5
    · go_enter Try.func72, Try.ntmps72
      go_wp2
      go_ret
      exact ⟨by simp <;> omega, rfl⟩
    · go_enter Try.func72, Try.ntmps72
      go_wp2
      go_ret
      exact ⟨by simp <;> omega, rfl⟩
  · go_enter Try.func72, Try.ntmps72
    go_wp2
    go_ret
    exact ⟨by simp <;> omega, rfl⟩

theorem anyTab_bad {l : List Nd} {i : Nat} (hi : i < l.length) (h : wrongTab (ndAt l i) = true) : l.any wrongTab = true := List.any_eq_true.2 ⟨_, ndAt_mem hi, h⟩
theorem anyTab_good {l : List Nd} (h : ∀ i, i < l.length → wrongTab (ndAt l i) = false) : l.any wrongTab = false := by
  rw [List.any_eq_false]
  intro x hx
  obtain ⟨i, hi, rfl⟩ := List.mem_iff_getElem.1 hx
  have e : ndAt l i = l[i] := by simp [ndAt, hi]
  have := h i hi
  rw [e] at this
  simp [this]

set_option maxHeartbeats 8000000 in
theorem tablesOk_any (v u : Value) (l : List Nd) (p : List Pr) (w : World) {lo hi : Nat} (h : SetAt lo hi w v u l p) :
    Calls Try.prog 45 #[.agg #[v, u]] w fun e w' => e = .returned (.bool (!(l.any wrongTab))) ∧ Below w.heap.size w w' := by
  obtain ⟨a, c, b, d, rfl, rfl⟩ := h.forms
  have bA : Below w.heap.size w (w.alloc (Obj.cells #[.slice a l.length c, .slice b p.length d] 36)) := (Below.refl _ _).alloc (Nat.le_refl _) _
  have y0 : (w.alloc (Obj.cells #[.slice a l.length c, .slice b p.length d] 36)).cell? ⟨w.heap.size, 0, none⟩ = some (.slice a l.length c) := by simp [go_sem]
  have hA := h.stays bA
  obtain ⟨a1, c1, e1, hm1, hcn⟩ := id hA.1
  cases e1
  unfold maxLen at hm1
  obtain ⟨TOP, hTOP⟩ : ∃ r, l.any wrongTab = r := ⟨_, rfl⟩
  rw [hTOP]
  change Hid _ at hTOP
  go_enter Try.func45, Try.ntmps45
  go_wp2_with fail
  generalize w.alloc (Obj.cells #[.slice a l.length c, .slice b p.length d] 36) = w3 at *
  generalize hB : w.heap.size = B at *
  go_loopw [8] (fun t8 wr' => ∃ i : Nat, t8 = .int .i64 (i : Int) ∧ i ≤ l.length ∧ Below w3.heap.size w3 wr' ∧ Hid (∀ x, x < i → wrongTab (ndAt l x) = false)) (fun t8 _ => l.length - (intOf t8).toNat)
  case atStart => exact ⟨0, rfl, Nat.zero_le _, Below.refl _ _, fun x hx => absurd hx (Nat.not_lt_zero _)⟩
  case round =>
    rename World => wo
    obtain ⟨i, rfl, hile, hb, hall⟩ := hrel
    have bO := bA.trans (hb.mono (by have := bA.size; omega))
    by_cases hlt : i < l.length
    · obtain ⟨nb, off, rfl, _, _, hcl⟩ := hcn (by omega)
      obtain ⟨n0, n1, n2, ka, kc, n3, _⟩ := hcl i hlt
      replace n0 := cell_stays hb n0
      replace n1 := cell_stays hb n1
      replace n2 := cell_stays hb n2
      replace n3 := cell_stays hb n3
      have i0 : (0 : Int) ≤ (i : Int) := by omega
      have i1 : (i : Int) < (l.length : Int) := by omega
      have next : wrongTab (ndAt l i) = false → Hid (∀ x, x < i + 1 → wrongTab (ndAt l x) = false) := fun he x hx => by
        by_cases e : x = i
        · subst e; exact he
        · exact hall.out x (by omega)
      have bad : wrongTab (ndAt l i) = true → TOP = true := fun hne => hTOP.out.symm.trans (anyTab_bad hlt hne)
      have bL := fun o => (Below.refl wo.heap.size wo).alloc (Nat.le_refl _) o
      clear hcl hcn hall
      generalize ndAt l i = nd at *
      obtain ⟨K, s, N, kids⟩ := nd
      simp only [wrongTab] at next bad
      by_cases k21 : K = 21
      · subst k21
        cases hq : (decide (N < 0) || decide (3 < N)) with
        | true =>
          have e := bad (by simp [hq])
          subst e
          clear next bad hTOP
          go_wp2_with (go_at_call 71; refine (letter_any _ _).mono ?_; rw [hq]; rintro e w4 ⟨rfl, rfl⟩)
          go_ret
          exact ⟨rfl, by (try rw [hB]); exact bO.trans ((bL _).mono (by have := bO.size; omega))⟩
        | false =>
          have nx := next (by simp [hq])
          clear next bad
          go_wp2_with (go_at_call 71; refine (letter_any _ _).mono ?_; rw [hq]; rintro e w4 ⟨rfl, rfl⟩)
          go_roundw
          case rel => exact ⟨i + 1, by go_num, by omega, hb.trans ((bL _).mono hb.size), nx⟩
          case measure => simp [intOf]; omega
      by_cases k22 : K = 22
      · subst k22
        cases hq : (decide (N < 0) || decide (4 < N)) with
        | true =>
          have e := bad (by simp [hq])
          subst e
          clear next bad hTOP
          go_wp2_with (go_at_call 72; refine (table_any _ _).mono ?_; rw [hq]; rintro e w4 ⟨rfl, rfl⟩)
          go_ret
          exact ⟨rfl, by (try rw [hB]); exact bO.trans ((bL _).mono (by have := bO.size; omega))⟩
        | false =>
          have nx := next (by simp [hq])
          clear next bad
          go_wp2_with (go_at_call 72; refine (table_any _ _).mono ?_; rw [hq]; rintro e w4 ⟨rfl, rfl⟩)
          go_roundw
          case rel => exact ⟨i + 1, by go_num, by omega, hb.trans ((bL _).mono hb.size), nx⟩
          case measure => simp [intOf]; omega
      have q21 : (K == 21) = false := beq_eq_false_iff_ne.2 k21
      have q22 : (K == 22) = false := beq_eq_false_iff_ne.2 k22
      have nx := next (by simp [k21, k22])
      clear next bad
      go_wp2
      go_roundw
      case rel => exact ⟨i + 1, by go_num, by omega, hb.trans ((bL _).mono hb.size), nx⟩
      case measure => simp [intOf]; omega
    · have hlt' : ¬ (i : Int) < (l.length : Int) := by omega
      have e : TOP = false := hTOP.out.symm.trans (anyTab_good fun x hx => hall.out x (by omega))
      subst e
      clear hall hTOP
      go_wp2
      go_ret
      exact ⟨rfl, by (try rw [hB]); exact bO⟩

theorem build_body (k : Int) (s : ByteArray) (n : Int) (ka : Option Addr) (m kc : Nat) (a : Option Addr) (q c : Nat) (w : World) : (Instr.build 106 #[(0, .agg #[.int .i64 k, .string s, .int .i64 n, .slice ka m kc, .slice a q c])]).run Try.prog w = .ok (.agg #[.int .i64 k, .string s, .int .i64 n, .slice ka m kc, .slice a q c]) w := by kernel_rfl

set_option maxHeartbeats 4000000 in
theorem bodyOf_any (a : Option Addr) (c : Nat) (b : Option Addr) (d : Nat) (l : List Nd) (p : List Pr) (i x : Nat) (w : World) {lo hi : Nat} (h : SetAt lo hi w (.slice a l.length c) (.slice b p.length d) l p) (hi' : i < p.length) (hx : (prAt p i).body = (x : Int)) (hxl : x < l.length) :
    Calls Try.prog 68 #[.agg #[.slice a l.length c, .slice b p.length d], .int .i64 (i : Int)] w fun e w' => (∃ qa qc, e = .returned (.agg #[.int .i64 (ndAt l x).k, .string (ndAt l x).s, .int .i64 (ndAt l x).n, .slice qa (ndAt l x).kids.length qc, .slice a l.length c]) ∧ KidsOf w a l x qa qc) ∧ Below w.heap.size w w' := by
  obtain ⟨a2, c2, e2, hm2, hcp⟩ := id h.2
  cases e2
  unfold maxLen at hm2
  obtain ⟨pb, off, rfl, _, _, hcl⟩ := hcp (by omega)
  obtain ⟨_, _, n2⟩ := hcl i hi'
  rw [hx] at n2
  have i0 : (0 : Int) ≤ (i : Int) := by omega
  have i1 : (i : Int) < (p.length : Int) := by omega
  clear hcl hcp hx
  have b2 : Below w.heap.size w ((w.alloc (Obj.cells #[.slice a l.length c, .slice (some ⟨pb, off, none⟩) p.length d] 36)).alloc (Obj.cells #[.int .i64 0, .string ⟨#[]⟩, .int .i64 0, .slice none 0 0, .slice none 0 0] 106)) := ((Below.refl _ _).alloc (Nat.le_refl _) _).alloc (by simp) _
  have y0 : ((w.alloc (Obj.cells #[.slice a l.length c, .slice (some ⟨pb, off, none⟩) p.length d] 36)).alloc (Obj.cells #[.int .i64 0, .string ⟨#[]⟩, .int .i64 0, .slice none 0 0, .slice none 0 0] 106)).cell? ⟨w.heap.size, 0, none⟩ = some (.slice a l.length c) := by simp [go_sem]
  have y1 : ((w.alloc (Obj.cells #[.slice a l.length c, .slice (some ⟨pb, off, none⟩) p.length d] 36)).alloc (Obj.cells #[.int .i64 0, .string ⟨#[]⟩, .int .i64 0, .slice none 0 0, .slice none 0 0] 106)).cell? ⟨w.heap.size, 1, none⟩ = some (.slice (some ⟨pb, off, none⟩) p.length d) := by simp [go_sem]
  have z0 : ((w.alloc (Obj.cells #[.slice a l.length c, .slice (some ⟨pb, off, none⟩) p.length d] 36)).alloc (Obj.cells #[.int .i64 0, .string ⟨#[]⟩, .int .i64 0, .slice none 0 0, .slice none 0 0] 106)).cell? ⟨w.heap.size + 1, 0, none⟩ = some (.int .i64 0) := by simp [go_sem]
  have z1 : ((w.alloc (Obj.cells #[.slice a l.length c, .slice (some ⟨pb, off, none⟩) p.length d] 36)).alloc (Obj.cells #[.int .i64 0, .string ⟨#[]⟩, .int .i64 0, .slice none 0 0, .slice none 0 0] 106)).cell? ⟨w.heap.size + 1, 1, none⟩ = some (.string ⟨#[]⟩) := by simp [go_sem]
  have z2 : ((w.alloc (Obj.cells #[.slice a l.length c, .slice (some ⟨pb, off, none⟩) p.length d] 36)).alloc (Obj.cells #[.int .i64 0, .string ⟨#[]⟩, .int .i64 0, .slice none 0 0, .slice none 0 0] 106)).cell? ⟨w.heap.size + 1, 2, none⟩ = some (.int .i64 0) := by simp [go_sem]
  have z3 : ((w.alloc (Obj.cells #[.slice a l.length c, .slice (some ⟨pb, off, none⟩) p.length d] 36)).alloc (Obj.cells #[.int .i64 0, .string ⟨#[]⟩, .int .i64 0, .slice none 0 0, .slice none 0 0] 106)).cell? ⟨w.heap.size + 1, 3, none⟩ = some (.slice none 0 0) := by simp [go_sem]
  have z4 : ((w.alloc (Obj.cells #[.slice a l.length c, .slice (some ⟨pb, off, none⟩) p.length d] 36)).alloc (Obj.cells #[.int .i64 0, .string ⟨#[]⟩, .int .i64 0, .slice none 0 0, .slice none 0 0] 106)).cell? ⟨w.heap.size + 1, 4, none⟩ = some (.slice none 0 0) := by simp [go_sem]
  have zf : ∀ q, ((w.alloc (Obj.cells #[.slice a l.length c, .slice (some ⟨pb, off, none⟩) p.length d] 36)).alloc (Obj.cells #[.int .i64 0, .string ⟨#[]⟩, .int .i64 0, .slice none 0 0, .slice none 0 0] 106)).frozen? ⟨w.heap.size + 1, q, none⟩ = false := fun q => by simp [go_sem]
  have hzz : w.heap.size + 1 < ((w.alloc (Obj.cells #[.slice a l.length c, .slice (some ⟨pb, off, none⟩) p.length d] 36)).alloc (Obj.cells #[.int .i64 0, .string ⟨#[]⟩, .int .i64 0, .slice none 0 0, .slice none 0 0] 106)).heap.size := by simp
  have h2 := h.1.stays b2
  have n2' := cell_stays b2 n2
  have bs := build_body
  go_enter Try.func68, Try.ntmps68
  go_wp2_with fail
  obtain ⟨B, hB⟩ : ∃ b, b = w.heap.size := ⟨_, rfl⟩
  rw [← hB] at y0 y1 z0 z1 z2 z3 z4 zf hzz ⊢
  have hBw : w.heap.size ≤ B := by omega
  clear hB
  generalize (w.alloc (Obj.cells #[.slice a l.length c, .slice (some ⟨pb, off, none⟩) p.length d] 36)).alloc (Obj.cells #[.int .i64 0, .string ⟨#[]⟩, .int .i64 0, .slice none 0 0, .slice none 0 0] 106) = w2 at *
  have bD := (Below.refl w2.heap.size w2).drew
  refine region_last (fun y => y.cell? ⟨B, 0, none⟩ = some (.slice a l.length c) ∧ y.cell? ⟨B, 1, none⟩ = some (.slice (some ⟨pb, off, none⟩) p.length d) ∧ y.cell? ⟨pb, off + i * 3 + 1 + 1, none⟩ = some (.int .i64 (x : Int))) (by kernel_rfl) (by kernel_rfl) (by kernel_rfl) ⟨cell_stays bD y0, cell_stays bD y1, cell_stays bD n2'⟩ (fun hHeld => ?_)
  simp only [List.dropLast, List.length_cons, List.length_nil, Nat.reduceAdd]
  refine takeL (i := 0) (v := ?_) rfl (by kernel_rfl) (by kernel_rfl) (by kernel_rfl) (fun _ _ _ h => h) rfl (by assumption) ?_ ?_
  rotate_left
  · (intro wS hSw; (try dsimp only at hSw); go_simp; try with_reducible rfl)
  (try simp only [Act.put, List.setIfInBounds_toArray, List.set_cons_zero, List.set_cons_succ])
  refine takeL (i := 1) (v := ?_) rfl (by kernel_rfl) (by kernel_rfl) (by kernel_rfl) (fun _ _ _ h => h) rfl (by assumption) ?_ ?_
  rotate_left
  · (intro wS hSw; (try dsimp only at hSw); go_simp; try with_reducible rfl)
  (try simp only [Act.put, List.setIfInBounds_toArray, List.set_cons_zero, List.set_cons_succ])
  refine takeL (i := 2) (v := ?_) rfl (by kernel_rfl) (by kernel_rfl) (by kernel_rfl) (fun _ _ _ h => h) rfl (by assumption) ?_ ?_
  rotate_left
  · (intro wS hSw; (try dsimp only at hSw); go_simp; try with_reducible rfl)
  (try simp only [Act.put, List.setIfInBounds_toArray, List.set_cons_zero, List.set_cons_succ])
  refine takeL (i := 3) (v := ?_) rfl (by kernel_rfl) (by kernel_rfl) (by kernel_rfl) (fun _ _ _ h => h) rfl (by assumption) ?_ ?_
  rotate_left
  · (intro wS hSw; (try dsimp only at hSw); go_simp; try with_reducible rfl)
  (try simp only [Act.put, List.setIfInBounds_toArray, List.set_cons_zero, List.set_cons_succ])
  refine takeL (i := 4) (v := ?_) rfl (by kernel_rfl) (by kernel_rfl) (by kernel_rfl) (fun _ _ _ h => h) rfl (by assumption) ?_ ?_
  rotate_left
  · (intro wS hSw; (try dsimp only at hSw); go_simp; try with_reducible rfl)
  (try simp only [Act.put, List.setIfInBounds_toArray, List.set_cons_zero, List.set_cons_succ])
  refine takeL (i := 5) (v := ?_) rfl (by kernel_rfl) (by kernel_rfl) (by kernel_rfl) (fun _ _ _ h => h) rfl (by assumption) ?_ ?_
  rotate_left
  · (intro wS hSw; (try dsimp only at hSw); go_simp; try with_reducible rfl)
  (try simp only [Act.put, List.setIfInBounds_toArray, List.set_cons_zero, List.set_cons_succ])
  refine takeL (i := 6) (v := ?_) rfl (by kernel_rfl) (by kernel_rfl) (by kernel_rfl) (fun _ _ _ h => h) rfl (by assumption) ?_ ?_
  rotate_left
  · (intro wS hSw; (try dsimp only at hSw); go_simp; try with_reducible rfl)
  (try simp only [Act.put, List.setIfInBounds_toArray, List.set_cons_zero, List.set_cons_succ])
  refine takeL (i := 7) (v := ?_) rfl (by kernel_rfl) (by kernel_rfl) (by kernel_rfl) (fun _ _ _ h => h) rfl (by assumption) ?_ ?_
  rotate_left
  · (intro wS hSw; (try dsimp only at hSw); go_simp; try with_reducible rfl)
  (try simp only [Act.put, List.setIfInBounds_toArray, List.set_cons_zero, List.set_cons_succ])
  refine stepL (i := 8) rfl (by kernel_rfl) (fun K hK => ?_)
  rw [if_pos (by rfl)]
  go_simp
  go_at_call 63
  refine Calls.mono (headOf_any a c l x w2.drew (h2.stays bD) hxl) ?_
  rintro e w3 ⟨⟨qa, qc, rfl, Q⟩, hb3⟩
  have b3 : Below w2.heap.size w2 w3 := bD.trans hb3
  have u0 := cell_stays b3 z0
  have u1 := cell_stays b3 z1
  have u2 := cell_stays b3 z2
  have u3 := cell_stays b3 z3
  have u4 := cell_stays b3 z4
  have uf : ∀ q, w3.frozen? ⟨B + 1, q, none⟩ = false := fun q => by rw [b3.frozen (by exact hzz)]; exact zf q
  have bW := b2.trans (b3.mono b2.size)
  (try simp only [])
  refine hK.out _ _ ⟨cell_stays b3 y0, cell_stays b3 y1, cell_stays b3 n2'⟩ (fun hHeld3 => ?_)
  clear hK K hHeld
  (try simp only [Act.put, List.setIfInBounds_toArray, List.set_cons_zero, List.set_cons_succ])
  refine takeL (i := 9) (v := ?_) rfl (by kernel_rfl) (by kernel_rfl) (by kernel_rfl) (fun _ _ _ h => h) rfl (by assumption) ?_ ?_
  rotate_left
  · (intro wS hSw; (try dsimp only at hSw); go_simp; try with_reducible rfl)
  (try simp only [Act.put, List.setIfInBounds_toArray, List.set_cons_zero, List.set_cons_succ])
  refine wpAnyH_done (by kernel_rfl) ?_ _
  refine lastL (n := 10) rfl rfl ?_
  go_simp
  clear hHeld3
  have Q' := KidsOf.back h.1 hxl (b2.trans (bD.mono b2.size)) Q
  go_wp2
  refine bodyPost_ret (v := .agg #[.int .i64 (ndAt l x).k, .string (ndAt l x).s, .int .i64 (ndAt l x).n, .slice qa (ndAt l x).kids.length qc, .slice a l.length c]) (by simp [results, Try.results68, go_sem, u0, u1, u2, u3, u4]) rfl ⟨⟨qa, qc, rfl, Q'⟩, ?_⟩
  repeat (first | exact bW | refine Below.setCell ?_ (by show w.heap.size ≤ B + 1; omega) _)

theorem procBound_any (K : Int) (s : ByteArray) (N : Int) (ka : Option Addr) (m kc : Nat) (a : Option Addr) (q c : Nat) (z : Int) (w : World) (z0 : 0 ≤ z) (z1 : z ≤ 1000000)
    (hC : ∀ w', Below w.heap.size w w' → Calls Try.prog 83 #[.agg #[.int .i64 K, .string s, .int .i64 N, .slice ka m kc, .slice a q c]] w' fun e w'' => e = .returned (.int .i64 z) ∧ Below w'.heap.size w' w'') :
    Calls Try.prog 70 #[.agg #[.int .i64 K, .string s, .int .i64 N, .slice ka m kc, .slice a q c]] w fun e w' => e = .returned (.int .i64 (capI (1 + z))) ∧ Below w.heap.size w w' := by
  have bA : Below w.heap.size w (w.alloc (Obj.cells #[.int .i64 K, .string s, .int .i64 N, .slice ka m kc, .slice a q c] 106)) := (Below.refl _ _).alloc (Nat.le_refl _) _
  by_cases h : 1000000 < 1 + z
  · have e : capI (1 + z) = 1000000 := by unfold capI; rw [if_pos h]
    rw [e]
    go_enter Try.func70, Try.ntmps70
    go_wp2_with (go_at_call 83; refine (hC _ bA).mono ?_; rintro e w2 ⟨rfl, hb2⟩)
    go_ret
    exact ⟨rfl, bA.trans (hb2.mono bA.size)⟩
  · have e : capI (1 + z) = 1 + z := by unfold capI; rw [if_neg h]
    rw [e]
    go_enter Try.func70, Try.ntmps70
    go_wp2_with (go_at_call 83; refine (hC _ bA).mono ?_; rintro e w2 ⟨rfl, hb2⟩)
    go_ret
    exact ⟨rfl, bA.trans (hb2.mono bA.size)⟩

end Go.Proofs.Ytjikmpdgednlaaa
