/- The program's isWithin: one frame is within another. -/
import Derived.Test.YtjikmpdgednlaaaC2s
namespace Go.Proofs.Ytjikmpdgednlaaa
open Go.ChangeShapes Go.WideShapes Go.ChangeAt Go.RowKit
set_option linter.unusedVariables false
set_option maxRecDepth 100000
attribute [local go_sem ↓] Go.wp_at_zero Go.wp_at_succ

set_option maxHeartbeats 4000000 in
theorem isWithin_any (a : Option Addr) (c : Nat) (l : List Nd) (b : Int) (f1 f2 : Int) (w : World) {lo hi : Nat} (h : NodesAt lo hi w (.slice a l.length c) l) (hn : NodesOk l) (hf : frOk l (f1, f2)) (hb : isFr l b) :
    Calls Try.prog 47 #[.slice a l.length c, .int .i64 b, .agg #[.int .i64 f1, .int .i64 f2]] w fun e w' => Says e (underF l (f1, f2) b) ∧ Below w.heap.size w w' := by
  obtain ⟨P, hP⟩ : ∃ P : Prop, underF l (f1, f2) b = P := ⟨_, rfl⟩
  rw [hP]
  obtain ⟨g0, g1, g2, g3⟩ := hf
  simp only at g0 g1 g2 g3
  obtain ⟨i, rfl⟩ : ∃ i : Nat, f1 = (i : Int) := ⟨f1.toNat, by omega⟩
  have hi' : i < l.length := by omega
  obtain ⟨a1, c1, e1, hm1, hcc⟩ := id h
  cases e1
  obtain ⟨nb, off, rfl, hlo, hhi, hcl⟩ := hcc (by omega)
  obtain ⟨n0, n1, n2, ka, kc, n3, Ki⟩ := hcl i hi'
  have i0 : (0 : Int) ≤ (i : Int) := by omega
  have i1 : (i : Int) < (l.length : Int) := by omega
  have hfor := isFr_for hn hi'
  have hKid := fun j => NodesOk.kid (j := j) hn hi'
  have HP : Hid (P ↔ (((ndAt l i).k = 24 ∧ b = iAt (ndAt l i).kids 0) ∨ ((ndAt l i).k = 27 ∧ 1 ≤ f2 ∧ (b = iAt (ndAt l i).kids (f2 - 1).toNat ∨ ((ndAt l (iAt (ndAt l i).kids (f2 - 1).toNat).toNat).k = 23 ∧ ∃ j, 1 ≤ j ∧ j < (ndAt l (iAt (ndAt l i).kids (f2 - 1).toNat).toNat).kids.length ∧ iAt (ndAt l (iAt (ndAt l i).kids (f2 - 1).toNat).toNat).kids j = b))))) := by
    show P ↔ _
    rw [← hP]
    simp only [underF, ndF, begF, Int.toNat_natCast]
  have g3' : ((ndAt l i).k = 27 ∧ f2 ≤ ((ndAt l i).kids.length : Int)) ∨ (ndAt l i).k = 24 := by
    simp only [ndF, Int.toNat_natCast] at g3
    rcases g3 with h | h
    · exact .inl h
    · exact .inr h.1
  clear g3 hP
  have bA : ∀ o : Obj, Below w.heap.size w (w.alloc o) := fun o => (Below.refl _ _).alloc (Nat.le_refl _) o
  have bB : ∀ o o' : Obj, Below w.heap.size w ((w.alloc o).alloc o') := fun o o' => (bA o).alloc (by simp) o'
  have m0 := fun o => cell_stays (bA o) n0
  have m1 := fun o => cell_stays (bA o) n1
  have m2 := fun o => cell_stays (bA o) n2
  have m3 := fun o => cell_stays (bA o) n3
  rcases g3' with ⟨h27, hle⟩ | h24
  · by_cases hI : f2 = 0
    · subst hI
      clear Ki hKid hfor hcl hcc
      generalize ndAt l i = x at *
      obtain ⟨k, s, n, kids⟩ := x
      simp only at *
      subst h27
      go_enter Try.func47, Try.ntmps47
      go_wp2
      go_ret
      exact ⟨says_no fun hh => by rcases HP.out.1 hh with h | h <;> omega, by go_grown⟩
    · obtain ⟨q, rfl⟩ : ∃ q : Nat, f2 = ((q + 1 : Nat) : Int) := ⟨(f2 - 1).toNat, by omega⟩
      have hq : q < (ndAt l i).kids.length := by omega
      obtain ⟨x, ex, hxi, hxl, hxs⟩ := hKid q hq
      have eq : ((((q + 1 : Nat) : Int) - 1).toNat) = q := by omega
      rw [eq, ex, Int.toNat_natCast] at HP
      obtain ⟨ka', kc', e2, hkm, hkk⟩ := id Ki
      cases e2
      obtain ⟨kb, koff, rfl, hklo, hkhi, hkc⟩ := hkk (by omega)
      have kq := hkc q hq
      rw [ex] at kq
      obtain ⟨x0, x1, x2, xa, xc, x3, Kx⟩ := hcl x hxl
      have hx0 : (0 : Int) ≤ (x : Int) := by omega
      have hx1 : (x : Int) < (l.length : Int) := by omega
      have hq0 : (0 : Int) ≤ (q : Int) := by omega
      have hq1 : (q : Int) < ((ndAt l i).kids.length : Int) := by omega
      have hq2 : ((q + 1 : Nat) : Int) = (q : Int) + 1 := by omega
      have hne := isFr_kid (b := b) hn hxl
      have u0 := fun o o' => cell_stays (bB o o') x0
      have u1 := fun o o' => cell_stays (bB o o') x1
      have u2 := fun o o' => cell_stays (bB o o') x2
      have u3 := fun o o' => cell_stays (bB o o') x3
      have v0 := fun o o' => cell_stays (bB o o') kq
      have hKx := fun o o' => Kx.stays (bB o o')
      clear Ki hKid hfor hcl hcc hkk hkc hxs
      have hq3 : ((q : Int) + 1 == 0) = false := by simp; omega
      have hq4 : (q : Int) ≤ 9223372036854775807 := by unfold maxLen at hkm; omega
      rw [hq2]
      clear hq2 eq ex
      generalize hnx : ndAt l x = y at *
      generalize ndAt l i = z at *
      obtain ⟨k, s, n, kids⟩ := z
      obtain ⟨xk, xs, xn, xkids⟩ := y
      simp only at *
      subst h27
      by_cases h23 : xk = 23
      · subst h23
        have hne' := hne rfl hb
        clear hKx
        go_enter Try.func47, Try.ntmps47
        go_wp2_with fail
        refine (containsI_any _ xkids b _ (Kx.stays ?hbx)).mono ?_
        case hbx => go_grown
        rintro e w2 ⟨⟨r, rfl, hr⟩, hb2⟩
        have hb3 : Below w.heap.size w w2 := Below.trans (by go_grown) (hb2.mono (by simp; omega))
        change Hid _ at hr
        go_wp2
        go_ret
        refine ⟨⟨r, rfl, ?_⟩, hb3⟩
        rw [hr.out, HP.out]
        constructor
        · rintro ⟨j, hj, he⟩
          refine .inr ⟨by trivial, by omega, .inr ⟨by trivial, j, ?_, hj, he⟩⟩
          rcases Nat.eq_zero_or_pos j with h0 | h0
          · subst h0
            exact absurd he hne'
          · exact h0
        · rintro (⟨h, _⟩ | ⟨_, _, h | ⟨_, j, _, h3, h4⟩⟩)
          · exact absurd h (by decide)
          · exfalso
            rcases hb with hb | hb
            all_goals (rw [h, Int.toNat_natCast, hnx] at hb; simp at hb)
          · exact ⟨j, h3, h4⟩
      · go_enter Try.func47, Try.ntmps47
        go_wp2
        go_ret
        refine ⟨⟨_, rfl, ?_⟩, by go_grown⟩
        rw [HP.out]
        constructor
        · intro he
          exact .inr ⟨by trivial, by omega, .inl (by simpa using Eq.symm (by simpa using he))⟩
        · rintro (⟨h, _⟩ | ⟨_, _, h | ⟨h, _⟩⟩)
          · exact absurd h (by decide)
          · simpa using h.symm
          · exact absurd h h23
  · have hk1 := hfor h24
    have hkp : 0 < (ndAt l i).kids.length := by omega
    change Hid _ at hk1
    clear hKid hfor
    generalize ndAt l i = z at *
    obtain ⟨k, s, n, kids⟩ := z
    simp only at *
    subst h24
    go_enter Try.func47, Try.ntmps47
    go_wp2_with fail
    refine (containsI_any _ kids b _ (Ki.stays ?hbz)).mono ?_
    case hbz => go_grown
    rintro e w2 ⟨⟨r, rfl, hr⟩, hb2⟩
    have hb3 : Below w.heap.size w w2 := Below.trans (by go_grown) (hb2.mono (by simp; omega))
    change Hid _ at hr
    go_wp2
    go_ret
    refine ⟨⟨r, rfl, ?_⟩, hb3⟩
    rw [hr.out, HP.out]
    constructor
    · rintro ⟨j, hj, he⟩
      obtain rfl : j = 0 := by have := hk1.out; omega
      exact .inl ⟨by trivial, he.symm⟩
    · rintro (⟨_, h⟩ | ⟨h, _⟩)
      · exact ⟨0, by omega, h.symm⟩
      · exact absurd h (by decide)
end Go.Proofs.Ytjikmpdgednlaaa
