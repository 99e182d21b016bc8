/- The specification's l7under and l7frames. -/
import Derived.Test.YtjikmpdgednlaaaC2s
namespace Go.Proofs.Ytjikmpdgednlaaa
open Go.ChangeShapes Go.WideShapes Go.ChangeAt Go.RowKit
set_option linter.unusedVariables false
set_option maxRecDepth 100000
attribute [local go_sem ↓] Go.wp_at_zero Go.wp_at_succ


set_option maxHeartbeats 4000000 in
theorem l7under_any (v u : Value) (l : List Nd) (p : List Pr) (b b2 : Int) (f1 f2 : Int) (w : World) {lo hi : Nat} (h : SetAt lo hi w v u l p) (hn : NodesOk l) (hf : frOk l (f1, f2)) (hb : isFr l b) :
    Calls Try.prog 38 #[.agg #[v, u], .agg #[.int .i64 f1, .int .i64 f2], .agg #[.int .i64 b, .int .i64 b2]] w fun e w' => Says e (underF l (f1, f2) b) ∧ Below w.heap.size w w' := by
  obtain ⟨P, hP⟩ : ∃ P : Prop, underF l (f1, f2) b = P := ⟨_, rfl⟩
  rw [hP]
  obtain ⟨g0, g1, g2, g3⟩ := hf
  simp only at g0 g1 g2 g3
  obtain ⟨i, rfl⟩ : ∃ i : Nat, f1 = (i : Int) := ⟨f1.toNat, by omega⟩
  have hi' : i < l.length := by omega
  obtain ⟨a, c, ub, ud, rfl, rfl⟩ := h.forms
  obtain ⟨a1, c1, e1, hm1, hcc⟩ := id h.1
  cases e1
  obtain ⟨nb, off, rfl, hlo, hhi, hcl⟩ := hcc (by omega)
  obtain ⟨n0, n1, n2, ka, kc, n3, Ki⟩ := hcl i hi'
  have i0 : (0 : Int) ≤ (i : Int) := by omega
  have i1 : (i : Int) < (l.length : Int) := by omega
  have hfor := isFr_for hn hi'
  have hKid := fun j => NodesOk.kid (j := j) hn hi'
  have HP : Hid (P ↔ (((ndAt l i).k = 24 ∧ b = iAt (ndAt l i).kids 0) ∨ ((ndAt l i).k = 27 ∧ 1 ≤ f2 ∧ (b = iAt (ndAt l i).kids (f2 - 1).toNat ∨ ((ndAt l (iAt (ndAt l i).kids (f2 - 1).toNat).toNat).k = 23 ∧ ∃ j, 1 ≤ j ∧ j < (ndAt l (iAt (ndAt l i).kids (f2 - 1).toNat).toNat).kids.length ∧ iAt (ndAt l (iAt (ndAt l i).kids (f2 - 1).toNat).toNat).kids j = b))))) := by
    show P ↔ _
    rw [← hP]
    simp only [underF, ndF, begF, Int.toNat_natCast]
  have g3' : ((ndAt l i).k = 27 ∧ f2 ≤ ((ndAt l i).kids.length : Int)) ∨ (ndAt l i).k = 24 := by
    simp only [ndF, Int.toNat_natCast] at g3
    rcases g3 with h | h
    · exact .inl h
    · exact .inr h.1
  clear g3 hP
  have bA : ∀ o o' o'' : Obj, Below w.heap.size w (((w.alloc o).alloc o').alloc o'') := fun o o' o'' => (((Below.refl _ _).alloc (Nat.le_refl _) o).alloc (by simp) o').alloc (by simp; omega) o''
  have bB : ∀ o o' o'' o3 : Obj, Below w.heap.size w ((((w.alloc o).alloc o').alloc o'').alloc o3) := fun o o' o'' o3 => (bA o o' o'').alloc (by simp; omega) o3
  have m0 := fun o o' o'' => cell_stays (bA o o' o'') n0
  have m1 := fun o o' o'' => cell_stays (bA o o' o'') n1
  have m2 := fun o o' o'' => cell_stays (bA o o' o'') n2
  have m3 := fun o o' o'' => cell_stays (bA o o' o'') n3
  rcases g3' with ⟨h27, hle⟩ | h24
  · by_cases hI : f2 < 1
    · clear Ki hKid hfor hcl hcc
      generalize ndAt l i = x at *
      obtain ⟨k, s, n, kids⟩ := x
      simp only at *
      subst h27
      go_enter Try.func38, Try.ntmps38
      go_wp2
      go_ret
      exact ⟨says_no fun hh => by rcases HP.out.1 hh with h | h <;> omega, by go_grown⟩
    · obtain ⟨q, rfl⟩ : ∃ q : Nat, f2 = ((q + 1 : Nat) : Int) := ⟨(f2 - 1).toNat, by omega⟩
      have hq : q < (ndAt l i).kids.length := by omega
      obtain ⟨x, ex, hxi, hxl, hxs⟩ := hKid q hq
      have eq : ((((q + 1 : Nat) : Int) - 1).toNat) = q := by omega
      rw [eq, ex, Int.toNat_natCast] at HP
      obtain ⟨ka', kc', e2, hkm, hkk⟩ := id Ki
      cases e2
      obtain ⟨kb, koff, rfl, hklo, hkhi, hkc⟩ := hkk (by omega)
      have kq := hkc q hq
      rw [ex] at kq
      obtain ⟨x0, x1, x2, xa, xc, x3, Kx⟩ := hcl x hxl
      have hx0 : (0 : Int) ≤ (x : Int) := by omega
      have hx1 : (x : Int) < (l.length : Int) := by omega
      have hq0 : (0 : Int) ≤ (q : Int) := by omega
      have hq1 : (q : Int) < ((ndAt l i).kids.length : Int) := by omega
      have hq2 : ((q + 1 : Nat) : Int) = (q : Int) + 1 := by omega
      have hq3 : ¬ ((q : Int) + 1 < 1) := by omega
      have hq4 : (q : Int) ≤ 9223372036854775807 := by unfold maxLen at hkm; omega
      have u0 := fun o o' o'' o3 => cell_stays (bB o o' o'' o3) x0
      have u1 := fun o o' o'' o3 => cell_stays (bB o o' o'' o3) x1
      have u2 := fun o o' o'' o3 => cell_stays (bB o o' o'' o3) x2
      have u3 := fun o o' o'' o3 => cell_stays (bB o o' o'' o3) x3
      have v0 := fun o o' o'' o3 => cell_stays (bB o o' o'' o3) kq
      clear Ki hKid hfor hcl hcc hkk hkc hxs
      rw [hq2]
      clear hq2 eq ex
      generalize hnx : ndAt l x = y at *
      generalize ndAt l i = z at *
      obtain ⟨k, s, n, kids⟩ := z
      obtain ⟨xk, xs, xn, xkids⟩ := y
      simp only at *
      subst h27
      by_cases hxb : (x : Int) = b
      · have hxd : ((x : Int) == b) = true := by simpa using hxb
        change Hid _ at hxb
        go_enter Try.func38, Try.ntmps38
        go_wp2
        go_ret
        refine ⟨says_yes (HP.out.2 (.inr ⟨by trivial, by omega, .inl hxb.out.symm⟩)), by go_grown⟩
      have hxd : ((x : Int) == b) = false := by simpa using hxb
      have hxb2 : Hid (¬ b = (x : Int)) := fun h => hxb h.symm
      clear hxb
      go_enter Try.func38, Try.ntmps38
      go_wp2_with fail
      obtain ⟨W, hW⟩ : ∃ x, x = (((((w.alloc (Obj.cells #[Value.slice (some ⟨nb, off, none⟩) l.length c, Value.slice ub p.length ud] 36)).alloc (Obj.cells #[.int .i64 (i : Int), .int .i64 ((q : Int) + 1)] 77)).alloc (Obj.cells #[.int .i64 b, .int .i64 b2] 77)).alloc (Obj.cells #[.int .i64 27, .string s, .int .i64 n, .slice (some ⟨kb, koff, none⟩) kids.length kc] 72)).alloc (Obj.cells #[.int .i64 xk, .string xs, .int .i64 xn, .slice xa xkids.length xc] 72)) := ⟨_, rfl⟩
      have bW : Below w.heap.size w W := by rw [hW]; exact (bB _ _ _ _).alloc (by simp; omega) _
      have t0 : W.cell? ⟨w.heap.size + 1 + 1 + 1 + 1, 0, none⟩ = some (.int .i64 xk) := by rw [hW]; simp [go_sem]
      have t3 : W.cell? ⟨w.heap.size + 1 + 1 + 1 + 1, 3, none⟩ = some (.slice xa xkids.length xc) := by rw [hW]; simp [go_sem]
      have t4 : W.cell? ⟨w.heap.size + 1 + 1, 0, none⟩ = some (.int .i64 b) := by rw [hW]; simp [go_sem]
      rw [← hW]
      have KxW := Kx.stays bW
      clear hW u0 u1 u2 u3 v0 m0 m1 m2 m3 Kx
      obtain ⟨xa', xc', e3, hxm, hxx⟩ := KxW
      cases e3
      unfold maxLen at hxm
      by_cases h23 : xk = 23
      · go_loopw [10] (fun t wr => ∃ j : Nat, 1 ≤ j ∧ t = .int .i64 (j : Int) ∧ (j = 1 ∨ j ≤ xkids.length) ∧ Below W.heap.size W wr ∧ Hid (∀ m, 1 ≤ m → m < j → iAt xkids m ≠ b)) (fun t _ => xkids.length - (intOf t).toNat)
        case atStart => exact ⟨1, Nat.le_refl _, rfl, .inl rfl, Below.refl _ _, fun m h1 h2 => absurd h2 (by omega)⟩
        case round =>
          rename World => wo
          obtain ⟨j, hj1, rfl, hj, hb, hs⟩ := hrel
          have y0 := cell_stays hb t0
          have y3 := cell_stays hb t3
          have y4 := cell_stays hb t4
          have hB := bW.trans (hb.mono bW.size)
          subst h23
          by_cases hlt : j < xkids.length
          · obtain ⟨qb, qoff, rfl, _, _, hqc⟩ := hxx (by omega)
            have d0 := cell_stays hb (hqc j hlt)
            have k0 := cell_regrown y0
            have k3 := cell_regrown y3
            have k4 := cell_regrown y4
            have k5 := cell_regrown d0
            have j0 : (0 : Int) ≤ (j : Int) := by omega
            have j1 : (j : Int) < (xkids.length : Int) := by omega
            clear hqc hxx
            by_cases he : iAt xkids j = b
            · have hd : (iAt xkids j == b) = true := by simpa using he
              change Hid _ at he
              go_wp2_with fail
              refine wp_region_quiet_below (by kernel_rfl) (by kernel_rfl) ?_
              repeat (go_big_quiet_step (fail))
              refine wpQuiet_nil ?_
              intro w5 hw5
              obtain ⟨⟨dq, osq⟩, hw6⟩ := hw5
              have hb5 : Below _ _ w5 := hw6 ▸ below_regrown _ dq osq
              clear hw6
              go_wp2
              go_ret
              exact ⟨says_yes (HP.out.2 (.inr ⟨by trivial, by omega, .inr ⟨by trivial, j, hj1, hlt, he.out⟩⟩)), hB.trans (hb5.mono hB.size)⟩
            · have hd : (iAt xkids j == b) = false := by simpa using he
              have hs2 : Hid (∀ m, 1 ≤ m → m < j + 1 → iAt xkids m ≠ b) := fun m h1 h2 => by
                by_cases e : m = j
                · subst e; exact he
                · exact hs.out m h1 (by omega)
              clear hs he
              go_wp2_with fail
              refine wp_region_quiet_below (by kernel_rfl) (by kernel_rfl) ?_
              repeat (go_big_quiet_step (fail))
              refine wpQuiet_nil ?_
              intro w5 hw5
              obtain ⟨⟨dq, osq⟩, hw6⟩ := hw5
              have hb5 : Below _ _ w5 := hw6 ▸ below_regrown _ dq osq
              clear hw6
              go_wp2
              go_roundw
              case rel => exact ⟨j + 1, by omega, by go_num, .inr (by omega), hb.trans (hb5.mono hb.size), hs2⟩
              case measure => simp [intOf]; omega
          · have hlt' : ¬ (j : Int) < (xkids.length : Int) := by omega
            go_wp2
            go_ret
            refine ⟨says_no fun hh => ?_, hB⟩
            rcases HP.out.1 hh with ⟨h, _⟩ | ⟨_, _, h | ⟨_, m, h2, h3, h4⟩⟩
            · exact absurd h (by decide)
            · exact hxb2.out h
            · exact hs.out m h2 (by omega) h4
      · have hxd2 : (xk == 23) = false := by simpa using h23
        refine wp_loop_rounds 1 ?_
        rw [rounds_succ]
        go_wp2
        go_ret
        refine ⟨says_no fun hh => ?_, bW⟩
        rcases HP.out.1 hh with ⟨h, _⟩ | ⟨_, _, h | ⟨h, _⟩⟩
        · exact absurd h (by decide)
        · exact hxb2.out h
        · exact h23 h
  · have hk1 := hfor h24
    have hkp : 0 < (ndAt l i).kids.length := by omega
    change Hid _ at hk1
    obtain ⟨ka', kc', e2, hkm, hkk⟩ := id Ki
    cases e2
    obtain ⟨kb, koff, rfl, hklo, hkhi, hkc⟩ := hkk (by omega)
    have kq := hkc 0 (by omega)
    clear hKid hfor hkc hkk hcc hcl
    generalize ndAt l i = z at *
    obtain ⟨k, s, n, kids⟩ := z
    simp only at *
    subst h24
    have hkp' : (0 : Int) < (kids.length : Int) := by omega
    have v0 := fun o o' o'' o3 => cell_stays (bB o o' o'' o3) kq
    go_enter Try.func38, Try.ntmps38
    go_wp2_with fail
    obtain ⟨W, hW⟩ : ∃ x, x = ((((w.alloc (Obj.cells #[Value.slice (some ⟨nb, off, none⟩) l.length c, Value.slice ub p.length ud] 36)).alloc (Obj.cells #[.int .i64 (i : Int), .int .i64 f2] 77)).alloc (Obj.cells #[.int .i64 b, .int .i64 b2] 77)).alloc (Obj.cells #[.int .i64 24, .string s, .int .i64 n, .slice (some ⟨kb, koff, none⟩) kids.length kc] 72)) := ⟨_, rfl⟩
    have bW : Below w.heap.size w W := by rw [hW]; exact bB _ _ _ _
    have t3 : W.cell? ⟨w.heap.size + 1 + 1 + 1, 3, none⟩ = some (.slice (some ⟨kb, koff, none⟩) kids.length kc) := by rw [hW]; simp [go_sem]
    have t4 : W.cell? ⟨w.heap.size + 1 + 1, 0, none⟩ = some (.int .i64 b) := by rw [hW]; simp [go_sem]
    have t5 : W.cell? ⟨kb, koff, none⟩ = some (.int .i64 (iAt kids 0)) := by have := cell_stays bW kq; simpa using this
    rw [← hW]
    clear hW v0 m0 m1 m2 m3 kq n0 n1 n2 n3
    have k3 := cell_regrown t3
    have k4 := cell_regrown t4
    have k5 := cell_regrown t5
    refine wp_region_quiet_below (by kernel_rfl) (by kernel_rfl) ?_
    repeat (go_big_quiet_step (fail))
    refine wpQuiet_nil ?_
    intro w5 hw5
    obtain ⟨⟨dq, osq⟩, hw6⟩ := hw5
    have hb5 : Below _ _ w5 := hw6 ▸ below_regrown _ dq osq
    clear hw6
    go_wp2
    go_ret
    refine ⟨⟨_, rfl, ?_⟩, bW.trans (hb5.mono bW.size)⟩
    rw [HP.out]
    constructor
    · intro he
      exact .inl ⟨by trivial, by simpa using he⟩
    · rintro (⟨_, h⟩ | ⟨h, _⟩)
      · simpa using h
      · exact absurd h (by decide)
end Go.Proofs.Ytjikmpdgednlaaa
