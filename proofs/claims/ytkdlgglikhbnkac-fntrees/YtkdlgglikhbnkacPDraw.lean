/- The draw of a text of procedures: that it answers a text. -/
import Derived.Test.YtkdlgglikhbnkacLDraw
import Derived.Test.YtkdlgglikhbnkacRegLast
import Derived.Test.YtkdlgglikhbnkacLex0
import Derived.Handy
import Derived.Test.YtkdlgglikhbnkacLex3
namespace Go.Proofs.Ytkdlgglikhbnkac
open Go.ChangeShapes Go.WideShapes Go.ChangeAt Go.RowKit Go.Sort
set_option linter.unusedVariables false
set_option maxRecDepth 100000
attribute [local go_sem ↓] Go.wp_at_zero Go.wp_at_succ

/-- Block b holds m short texts. -/
def Texts (w : World) (b m : Nat) : Prop := ∀ j, j < m → ∃ x : ByteArray, w.cell? ⟨b, j, none⟩ = some (.string x) ∧ x.size ≤ 22
def okText : Value → Bool
  | .string x => decide (x.size ≤ 22)
  | _ => false
theorem texts_new (w : World) (C : Array Value) (T : TypeId) (h : C.all okText = true) : Texts (w.alloc (.cells C T)) w.heap.size C.size := fun j hj => by
  rw [Array.all_eq_true] at h
  have h2 := h j hj
  have e : (w.alloc (.cells C T)).cell? ⟨w.heap.size, j, none⟩ = some C[j] := by simp [go_sem, hj]
  cases hc : C[j] with
  | string x => rw [hc] at h2; exact ⟨x, by rw [e, hc], by simpa [okText] using h2⟩
  | _ => rw [hc] at h2; simp [okText] at h2

theorem l1text_any (cb b m cap : Nat) (w : World) (hc : Cur w cb) (hm : 0 < m) (hm2 : m ≤ 1000) (hT : Texts w b m) (hbl : b < w.heap.size) (hbc : b ≠ cb) :
    Calls Try.prog 23 #[.pointer (some ⟨cb, 0, none⟩), .slice (some ⟨b, 0, none⟩) m cap] w fun e w' => (∃ x : ByteArray, e = .returned (.string x) ∧ x.size ≤ 22) ∧ Cur w' cb ∧ w.grownBy w' (some cb) := by
  go_enter Try.func23, Try.ntmps23
  go_wp2_with fail
  refine (l1Below_any cb (m : Int) _ hc).mono ?_
  rintro e w1 ⟨⟨x, rfl, x0, x1⟩, hc1, hg1⟩
  have x2 := x1 (by omega)
  clear x1
  obtain ⟨k, rfl⟩ := Int.eq_ofNat_of_zero_le x0
  obtain ⟨y, y1, y2⟩ := hT k (by omega)
  have c1 : w1.cell? ⟨b, k, none⟩ = some (.string y) := by
    rw [hg1.cell_far _ hbl (by intro e; injection e with e; exact hbc (by simpa using e))]
    exact y1
  go_wp2
  go_ret
  exact ⟨⟨y, rfl, y2⟩, hc1, hg1⟩

theorem cat_size (x y : ByteArray) : (x ++ y).size = x.size + y.size := ByteArray.size_append

/-- A draw of a text: it is no longer than so, and only the cursor is turned. -/
def DText (cb B : Nat) (w : World) (e : Ending) (w' : World) : Prop := (∃ x : ByteArray, e = .returned (.string x) ∧ x.size ≤ B) ∧ Cur w' cb ∧ w.grownBy w' (some cb)

theorem l1Once_any (cb : Nat) (n : Int) (w : World) (hc : Cur w cb) :
    Calls Try.prog 13 #[.pointer (some ⟨cb, 0, none⟩), .int .i64 n] w fun e w' => (e = .returned (.bool true) ∨ e = .returned (.bool false)) ∧ Cur w' cb ∧ w.grownBy w' (some cb) := by
  go_enter Try.func13, Try.ntmps13
  go_wp2_with fail
  refine (l1Below_any cb n _ hc).mono ?_
  rintro e w1 ⟨⟨x, rfl, x0, x1⟩, hc1, hg1⟩
  by_cases h : x = 0
  · subst h
    go_wp2
    go_ret
    exact ⟨.inl rfl, hc1, hg1⟩
  · have hb : (x == 0) = false := by simp [h]
    go_wp2
    go_ret
    exact ⟨.inr rfl, hc1, hg1⟩

/-- A word out of a list of fixed ones. -/
theorem dword_any (cb m : Nat) (C : Array Value) (w : World) (hc : Cur w cb) (hC : C.all okText = true) (hm : C.size = m) (hm0 : 0 < m) (hm2 : m ≤ 1000) :
    Calls Try.prog 23 #[.pointer (some ⟨cb, 0, none⟩), .slice (some ⟨w.heap.size, 0, none⟩) m m] (w.alloc (.cells C 9)) (DText cb 22 w) := by
  have hA : Below w.heap.size w (w.alloc (.cells C 9)) := (Below.refl _ _).alloc (Nat.le_refl _) _
  have hT := texts_new w C 9 hC
  rw [hm] at hT
  refine Calls.mono (l1text_any cb w.heap.size m m _ (hc.stays hA) hm0 hm2 hT (by simp) (by have := hc.lt; omega)) ?_
  rintro e w1 ⟨h1, h2, h3⟩
  exact ⟨h1, h2, gb_tr (gb_be _ hA) h3⟩

def xB : Nat → Nat
  | 0 => 22
  | d + 1 => 2 * xB d + 24

set_option maxHeartbeats 4000000 in
theorem l4x_any (cb : Nat) : ∀ (d : Nat) (w : World), d ≤ 3 → Cur w cb → Calls Try.prog 46 #[.pointer (some ⟨cb, 0, none⟩), .int .i64 (d : Int)] w (DText cb (xB d) w)
  | 0, w, _, hc => by
    go_enter Try.func46, Try.ntmps46
    go_wp2_with fail
    refine Calls.mono (dword_any cb 8 _ w hc (by kernel_rfl) (by rfl) (by omega) (by omega)) ?_
    rintro e w1 ⟨⟨x, rfl, hx⟩, hc1, hg1⟩
    go_wp2
    go_ret
    exact ⟨⟨x, rfl, hx⟩, hc1, hg1⟩
  | d + 1, w, hd, hc => by
    have ih := l4x_any cb d
    have hB : 22 ≤ xB d := by
      cases d with
      | zero => simp [xB]
      | succ d => simp only [xB]; omega
    have hBu : xB d ≤ 200 := by
      have : d = 0 ∨ d = 1 ∨ d = 2 := by omega
      rcases this with rfl | rfl | rfl <;> decide
    have hxB : xB (d + 1) = 2 * xB d + 24 := rfl
    rw [hxB]
    clear hxB
    generalize xB d = B at *
    have hd0 : ¬ ((d : Int) + 1) ≤ 0 := by omega
    go_enter Try.func46, Try.ntmps46
    go_wp2_with fail
    refine (l1Once_any cb 3 _ hc).mono ?_
    rintro e w1 ⟨rfl | rfl, hc1, hg1⟩
    · go_wp2_with fail
      refine Calls.mono (dword_any cb 8 _ w1 hc1 (by kernel_rfl) (by rfl) (by omega) (by omega)) ?_
      rintro e w2 ⟨⟨x, rfl, hx⟩, hc2, hg2⟩
      go_wp2
      go_ret
      exact ⟨⟨x, rfl, by omega⟩, hc2, gb_tr hg1 hg2⟩
    · go_wp2_with fail
      refine (l1Below_any cb 7 _ hc1).mono ?_
      rintro e w2 ⟨⟨z, rfl, z0, z1⟩, hc2, hg2⟩
      have hg12 := gb_tr hg1 hg2
      by_cases hz0 : z = 0
      · subst hz0
        go_wp2_with fail
        refine Calls.mono (ih w2 (by omega) hc2) ?_
        rintro e w3 ⟨⟨x, rfl, hx⟩, hc3, hg3⟩
        go_wp2
        go_ret
        exact ⟨⟨_, rfl, by rw [cat_size]; show 1 + _ ≤ _; omega⟩, hc3, gb_tr hg12 hg3⟩
      by_cases hz1 : z = 1
      · subst hz1
        go_wp2_with fail
        refine Calls.mono (ih w2 (by omega) hc2) ?_
        rintro e w3 ⟨⟨x, rfl, hx⟩, hc3, hg3⟩
        go_wp2_with fail
        refine Calls.mono (dword_any cb 2 _ w3 hc3 (by kernel_rfl) (by rfl) (by omega) (by omega)) ?_
        rintro e w4 ⟨⟨y, rfl, hy⟩, hc4, hg4⟩
        go_wp2_with fail
        refine Calls.mono (ih w4 (by omega) hc4) ?_
        rintro e w5 ⟨⟨u, rfl, hu⟩, hc5, hg5⟩
        go_wp2
        go_ret
        exact ⟨⟨_, rfl, by simp only [cat_size]; show 1 + _ + _ + _ + 1 ≤ _; omega⟩, hc5, gb_tr (gb_tr (gb_tr hg12 hg3) hg4) hg5⟩
      · go_wp2_with fail
        refine Calls.mono (ih w2 (by omega) hc2) ?_
        rintro e w3 ⟨⟨x, rfl, hx⟩, hc3, hg3⟩
        go_wp2_with fail
        refine Calls.mono (dword_any cb 5 _ w3 hc3 (by kernel_rfl) (by rfl) (by omega) (by omega)) ?_
        rintro e w4 ⟨⟨y, rfl, hy⟩, hc4, hg4⟩
        go_wp2_with fail
        refine Calls.mono (ih w4 (by omega) hc4) ?_
        rintro e w5 ⟨⟨u, rfl, hu⟩, hc5, hg5⟩
        go_wp2
        go_ret
        exact ⟨⟨_, rfl, by simp only [cat_size]; show 1 + _ + _ + _ + 1 ≤ _; omega⟩, hc5, gb_tr (gb_tr (gb_tr hg12 hg3) hg4) hg5⟩

def sB : Nat → Nat
  | 0 => 300
  | d + 1 => 2 * sB d + 300

theorem x1B : xB 1 = 68 := rfl
theorem x2B : xB 2 = 160 := rfl

set_option maxHeartbeats 8000000 in
theorem l4s_zero (cb : Nat) (w : World) (hc : Cur w cb) : Calls Try.prog 24 #[.pointer (some ⟨cb, 0, none⟩), .int .i64 0] w (DText cb (sB 0) w) := by
    have l4x_any := fun (cb d : Nat) (w : World) (h : d ≤ 2) (hc : Cur w cb) => (l4x_any cb d w (by omega) hc)
    have hsB : 300 ≤ sB 0 := Nat.le_refl _
    generalize sB 0 = R at hsB ⊢
    go_enter Try.func24, Try.ntmps24
    go_wp2_with fail
    refine Calls.mono (dword_any cb 7 _ w hc (by kernel_rfl) (by rfl) (by omega) (by omega)) ?_
    rintro e w1 ⟨⟨k, rfl, hk⟩, cw1, gw1⟩
    replace gw1 := gb_tr (gb_be (some cb) (Below.refl w.heap.size w)) gw1
    go_wp2_with fail
    refine Calls.mono (dword_any cb 4 _ w1 cw1 (by kernel_rfl) (by rfl) (by omega) (by omega)) ?_
    rintro e w2 ⟨⟨t, rfl, ht⟩, cw2, gw2⟩
    replace gw2 := gb_tr gw1 gw2
    go_wp2_with fail
    refine (l1Below_any cb 11 _ cw2).mono ?_
    rintro e wz ⟨⟨z, rfl, z0, z1⟩, cz, gz⟩
    replace gz := gb_tr gw2 gz
    have z2 := z1 (by omega)
    clear z1
    have hz : z = 0 ∨ z = 1 ∨ z = 2 ∨ z = 3 ∨ z = 4 ∨ z = 5 ∨ z = 6 ∨ z = 7 ∨ (8 ≤ z ∧ z ≤ 10) := by omega
    rcases hz with rfl | rfl | rfl | rfl | rfl | rfl | rfl | rfl | hz
    · go_wp2_with fail
      refine Calls.mono (dword_any cb 2 _ wz cz (by kernel_rfl) (by rfl) (by omega) (by omega)) ?_
      rintro e wa ⟨⟨x, rfl, hx⟩, cwa, gwa⟩
      (try rw [x1B] at hx)
      (try rw [x2B] at hy)
      replace gwa := gb_tr gz gwa
      go_wp2
      go_ret
      exact ⟨⟨_, rfl, by simp only [cat_size]; show _ + 8 + _ + 1 + _ + 2 ≤ _; omega⟩, cwa, gwa⟩
    · go_wp2_with fail
      refine Calls.mono (dword_any cb 2 _ wz cz (by kernel_rfl) (by rfl) (by omega) (by omega)) ?_
      rintro e wa ⟨⟨x, rfl, hx⟩, cwa, gwa⟩
      (try rw [x1B] at hx)
      (try rw [x2B] at hy)
      replace gwa := gb_tr gz gwa
      go_wp2
      go_ret
      exact ⟨⟨_, rfl, by simp only [cat_size]; show _ + 8 + _ + 1 + _ + 2 ≤ _; omega⟩, cwa, gwa⟩
    · go_wp2_with fail
      refine Calls.mono (dword_any cb 2 _ wz cz (by kernel_rfl) (by rfl) (by omega) (by omega)) ?_
      rintro e wa ⟨⟨x, rfl, hx⟩, cwa, gwa⟩
      (try rw [x1B] at hx)
      (try rw [x2B] at hy)
      replace gwa := gb_tr gz gwa
      go_wp2
      go_ret
      exact ⟨⟨_, rfl, by simp only [cat_size]; show _ + 8 + _ + 1 + _ + 2 ≤ _; omega⟩, cwa, gwa⟩
    · go_wp2_with fail
      refine Calls.mono (l4x_any cb 1 wz (by omega) cz) ?_
      rintro e wa ⟨⟨x, rfl, hx⟩, cwa, gwa⟩
      (try rw [x1B] at hx)
      (try rw [x2B] at hy)
      replace gwa := gb_tr gz gwa
      go_wp2
      go_ret
      exact ⟨⟨_, rfl, by simp only [cat_size]; show 6 + _ + 1 + _ + 4 + _ + 1 ≤ _; omega⟩, cwa, gwa⟩
    · go_wp2_with fail
      refine Calls.mono (l4x_any cb 1 wz (by omega) cz) ?_
      rintro e wa ⟨⟨x, rfl, hx⟩, cwa, gwa⟩
      (try rw [x1B] at hx)
      (try rw [x2B] at hy)
      replace gwa := gb_tr gz gwa
      go_wp2
      go_ret
      exact ⟨⟨_, rfl, by simp only [cat_size]; show 6 + _ + 1 + _ + 4 + _ + 1 ≤ _; omega⟩, cwa, gwa⟩
    · go_wp2_with fail
      refine Calls.mono (l4x_any cb 1 wz (by omega) cz) ?_
      rintro e wa ⟨⟨x, rfl, hx⟩, cwa, gwa⟩
      (try rw [x1B] at hx)
      (try rw [x2B] at hy)
      replace gwa := gb_tr gz gwa
      go_wp2
      go_ret
      exact ⟨⟨_, rfl, by simp only [cat_size]; show 6 + _ + 1 + _ + 4 + _ + 1 ≤ _; omega⟩, cwa, gwa⟩
    · go_wp2_with fail
      refine Calls.mono (dword_any cb 4 _ wz cz (by kernel_rfl) (by rfl) (by omega) (by omega)) ?_
      rintro e wa ⟨⟨x, rfl, hx⟩, cwa, gwa⟩
      (try rw [x1B] at hx)
      (try rw [x2B] at hy)
      replace gwa := gb_tr gz gwa
      go_wp2
      go_ret
      exact ⟨⟨_, rfl, by omega⟩, cwa, gwa⟩
    · go_wp2
      go_ret
      exact ⟨⟨_, rfl, by simp only [cat_size]; show 9 + _ + 1 + _ + 9 + _ + 1 + _ + 10 ≤ _; omega⟩, cz, gz⟩
    · have n0 : ¬ z = 0 := by omega
      have n1 : ¬ z = 1 := by omega
      have n2 : ¬ z = 2 := by omega
      have n3 : ¬ z = 3 := by omega
      have n4 : ¬ z = 4 := by omega
      have n5 : ¬ z = 5 := by omega
      have n6 : ¬ z = 6 := by omega
      have n7 : ¬ z = 7 := by omega
      go_wp2_with fail
      refine Calls.mono (dword_any cb 2 _ wz cz (by kernel_rfl) (by rfl) (by omega) (by omega)) ?_
      rintro e wa ⟨⟨x, rfl, hx⟩, cwa, gwa⟩
      (try rw [x1B] at hx)
      (try rw [x2B] at hy)
      replace gwa := gb_tr gz gwa
      go_wp2_with fail
      refine Calls.mono (l4x_any cb 2 wa (by omega) cwa) ?_
      rintro e wb ⟨⟨y, rfl, hy⟩, cwb, gwb⟩
      (try rw [x1B] at hx)
      (try rw [x2B] at hy)
      replace gwb := gb_tr gwa gwb
      go_wp2
      go_ret
      exact ⟨⟨_, rfl, by simp only [cat_size]; show _ + 3 + _ + 1 ≤ _; omega⟩, cwb, gwb⟩

set_option maxHeartbeats 8000000 in
theorem l4s_step (cb d : Nat) (hd : d ≤ 1) (ih : ∀ w : World, Cur w cb → Calls Try.prog 24 #[.pointer (some ⟨cb, 0, none⟩), .int .i64 (d : Int)] w (DText cb (sB d) w)) (w : World) (hc : Cur w cb) : Calls Try.prog 24 #[.pointer (some ⟨cb, 0, none⟩), .int .i64 ((d : Int) + 1)] w (DText cb (sB (d + 1)) w) := by
    have l4x_any := fun (cb d : Nat) (w : World) (h : d ≤ 2) (hc : Cur w cb) => (l4x_any cb d w (by omega) hc)
    have hBu : sB d ≤ 1000 := by
      have : d = 0 ∨ d = 1 := by omega
      rcases this with rfl | rfl <;> decide
    have hsB : 300 ≤ sB (d + 1) ∧ 2 * sB d + 300 ≤ sB (d + 1) := by simp only [sB]; omega
    generalize sB (d + 1) = R at hsB ⊢
    obtain ⟨hsB, hsB2⟩ := hsB
    generalize sB d = B at *
    have hd0 : (0 : Int) < (d : Int) + 1 := by omega
    go_enter Try.func24, Try.ntmps24
    go_wp2_with fail
    refine Calls.mono (dword_any cb 7 _ w hc (by kernel_rfl) (by rfl) (by omega) (by omega)) ?_
    rintro e w1 ⟨⟨k, rfl, hk⟩, cw1, gw1⟩
    replace gw1 := gb_tr (gb_be (some cb) (Below.refl w.heap.size w)) gw1
    go_wp2_with fail
    refine Calls.mono (dword_any cb 4 _ w1 cw1 (by kernel_rfl) (by rfl) (by omega) (by omega)) ?_
    rintro e w2 ⟨⟨t, rfl, ht⟩, cw2, gw2⟩
    replace gw2 := gb_tr gw1 gw2
    go_wp2_with fail
    refine (l1Below_any cb 8 _ cw2).mono ?_
    rintro e wy ⟨⟨y, rfl, y0, y1⟩, cy, gy⟩
    replace gy := gb_tr gw2 gy
    have y2 := y1 (by omega)
    clear y1
    have hy : y = 0 ∨ y = 1 ∨ y = 2 ∨ 3 ≤ y := by omega
    rcases hy with rfl | rfl | rfl | hy
    · go_wp2_with fail
      refine Calls.mono (l4x_any cb 1 wy (by omega) cy) ?_
      rintro e wa ⟨⟨x, rfl, hx⟩, cwa, gwa⟩
      (try rw [x1B] at hx)
      (try rw [x2B] at hy)
      replace gwa := gb_tr gy gwa
      go_wp2_with fail
      refine Calls.mono (ih wa cwa) ?_
      rintro e wb ⟨⟨u, rfl, hu⟩, cwb, gwb⟩
      replace gwb := gb_tr gwa gwb
      go_wp2
      go_ret
      exact ⟨⟨_, rfl, by simp only [cat_size]; show 4 + _ + 4 + _ + 2 ≤ _; omega⟩, cwb, gwb⟩
    · go_wp2_with fail
      refine Calls.mono (l4x_any cb 1 wy (by omega) cy) ?_
      rintro e wa ⟨⟨x, rfl, hx⟩, cwa, gwa⟩
      (try rw [x1B] at hx)
      (try rw [x2B] at hy)
      replace gwa := gb_tr gy gwa
      go_wp2_with fail
      refine Calls.mono (ih wa cwa) ?_
      rintro e wb ⟨⟨u, rfl, hu⟩, cwb, gwb⟩
      replace gwb := gb_tr gwa gwb
      go_wp2_with fail
      refine Calls.mono (ih wb cwb) ?_
      rintro e wd ⟨⟨v, rfl, hv⟩, cwd, gwd⟩
      replace gwd := gb_tr gwb gwd
      go_wp2
      go_ret
      exact ⟨⟨_, rfl, by simp only [cat_size]; show 4 + _ + 4 + _ + 10 + _ + 2 ≤ _; omega⟩, cwd, gwd⟩
    · go_wp2_with fail
      refine Calls.mono (dword_any cb 3 _ wy cy (by kernel_rfl) (by rfl) (by omega) (by omega)) ?_
      rintro e wa ⟨⟨x, rfl, hx⟩, cwa, gwa⟩
      (try rw [x1B] at hx)
      (try rw [x2B] at hy)
      replace gwa := gb_tr gy gwa
      go_wp2_with fail
      refine Calls.mono (ih wa cwa) ?_
      rintro e wb ⟨⟨u, rfl, hu⟩, cwb, gwb⟩
      replace gwb := gb_tr gwa gwb
      go_wp2
      go_ret
      exact ⟨⟨_, rfl, by simp only [cat_size]; show 9 + _ + 3 + _ + 2 ≤ _; omega⟩, cwb, gwb⟩
    · have p0 : ¬ y = 0 := by omega
      have p1 : ¬ y = 1 := by omega
      have p2 : ¬ y = 2 := by omega
      go_wp2_with fail
      refine (l1Below_any cb 11 _ cy).mono ?_
      rintro e wz ⟨⟨z, rfl, z0, z1⟩, cz, gz⟩
      replace gz := gb_tr gy gz
      have z2 := z1 (by omega)
      clear z1
      have hz : z = 0 ∨ z = 1 ∨ z = 2 ∨ z = 3 ∨ z = 4 ∨ z = 5 ∨ z = 6 ∨ z = 7 ∨ (8 ≤ z ∧ z ≤ 10) := by omega
      rcases hz with rfl | rfl | rfl | rfl | rfl | rfl | rfl | rfl | hz
      · go_wp2_with fail
        refine Calls.mono (dword_any cb 2 _ wz cz (by kernel_rfl) (by rfl) (by omega) (by omega)) ?_
        rintro e wa ⟨⟨x, rfl, hx⟩, cwa, gwa⟩
        (try rw [x1B] at hx)
        (try rw [x2B] at hy)
        replace gwa := gb_tr gz gwa
        go_wp2
        go_ret
        exact ⟨⟨_, rfl, by simp only [cat_size]; show _ + 8 + _ + 1 + _ + 2 ≤ _; omega⟩, cwa, gwa⟩
      · go_wp2_with fail
        refine Calls.mono (dword_any cb 2 _ wz cz (by kernel_rfl) (by rfl) (by omega) (by omega)) ?_
        rintro e wa ⟨⟨x, rfl, hx⟩, cwa, gwa⟩
        (try rw [x1B] at hx)
        (try rw [x2B] at hy)
        replace gwa := gb_tr gz gwa
        go_wp2
        go_ret
        exact ⟨⟨_, rfl, by simp only [cat_size]; show _ + 8 + _ + 1 + _ + 2 ≤ _; omega⟩, cwa, gwa⟩
      · go_wp2_with fail
        refine Calls.mono (dword_any cb 2 _ wz cz (by kernel_rfl) (by rfl) (by omega) (by omega)) ?_
        rintro e wa ⟨⟨x, rfl, hx⟩, cwa, gwa⟩
        (try rw [x1B] at hx)
        (try rw [x2B] at hy)
        replace gwa := gb_tr gz gwa
        go_wp2
        go_ret
        exact ⟨⟨_, rfl, by simp only [cat_size]; show _ + 8 + _ + 1 + _ + 2 ≤ _; omega⟩, cwa, gwa⟩
      · go_wp2_with fail
        refine Calls.mono (l4x_any cb 1 wz (by omega) cz) ?_
        rintro e wa ⟨⟨x, rfl, hx⟩, cwa, gwa⟩
        (try rw [x1B] at hx)
        (try rw [x2B] at hy)
        replace gwa := gb_tr gz gwa
        go_wp2
        go_ret
        exact ⟨⟨_, rfl, by simp only [cat_size]; show 6 + _ + 1 + _ + 4 + _ + 1 ≤ _; omega⟩, cwa, gwa⟩
      · go_wp2_with fail
        refine Calls.mono (l4x_any cb 1 wz (by omega) cz) ?_
        rintro e wa ⟨⟨x, rfl, hx⟩, cwa, gwa⟩
        (try rw [x1B] at hx)
        (try rw [x2B] at hy)
        replace gwa := gb_tr gz gwa
        go_wp2
        go_ret
        exact ⟨⟨_, rfl, by simp only [cat_size]; show 6 + _ + 1 + _ + 4 + _ + 1 ≤ _; omega⟩, cwa, gwa⟩
      · go_wp2_with fail
        refine Calls.mono (l4x_any cb 1 wz (by omega) cz) ?_
        rintro e wa ⟨⟨x, rfl, hx⟩, cwa, gwa⟩
        (try rw [x1B] at hx)
        (try rw [x2B] at hy)
        replace gwa := gb_tr gz gwa
        go_wp2
        go_ret
        exact ⟨⟨_, rfl, by simp only [cat_size]; show 6 + _ + 1 + _ + 4 + _ + 1 ≤ _; omega⟩, cwa, gwa⟩
      · go_wp2_with fail
        refine Calls.mono (dword_any cb 4 _ wz cz (by kernel_rfl) (by rfl) (by omega) (by omega)) ?_
        rintro e wa ⟨⟨x, rfl, hx⟩, cwa, gwa⟩
        (try rw [x1B] at hx)
        (try rw [x2B] at hy)
        replace gwa := gb_tr gz gwa
        go_wp2
        go_ret
        exact ⟨⟨_, rfl, by omega⟩, cwa, gwa⟩
      · go_wp2
        go_ret
        exact ⟨⟨_, rfl, by simp only [cat_size]; show 9 + _ + 1 + _ + 9 + _ + 1 + _ + 10 ≤ _; omega⟩, cz, gz⟩
      · have n0 : ¬ z = 0 := by omega
        have n1 : ¬ z = 1 := by omega
        have n2 : ¬ z = 2 := by omega
        have n3 : ¬ z = 3 := by omega
        have n4 : ¬ z = 4 := by omega
        have n5 : ¬ z = 5 := by omega
        have n6 : ¬ z = 6 := by omega
        have n7 : ¬ z = 7 := by omega
        go_wp2_with fail
        refine Calls.mono (dword_any cb 2 _ wz cz (by kernel_rfl) (by rfl) (by omega) (by omega)) ?_
        rintro e wa ⟨⟨x, rfl, hx⟩, cwa, gwa⟩
        (try rw [x1B] at hx)
        (try rw [x2B] at hy)
        replace gwa := gb_tr gz gwa
        go_wp2_with fail
        refine Calls.mono (l4x_any cb 2 wa (by omega) cwa) ?_
        rintro e wb ⟨⟨y, rfl, hy⟩, cwb, gwb⟩
        (try rw [x1B] at hx)
        (try rw [x2B] at hy)
        replace gwb := gb_tr gwa gwb
        go_wp2
        go_ret
        exact ⟨⟨_, rfl, by simp only [cat_size]; show _ + 3 + _ + 1 ≤ _; omega⟩, cwb, gwb⟩

theorem l4s_two (cb : Nat) (w : World) (hc : Cur w cb) : Calls Try.prog 24 #[.pointer (some ⟨cb, 0, none⟩), .int .i64 2] w (DText cb 2100 w) :=
  l4s_step cb 1 (by omega) (fun w hc => l4s_step cb 0 (by omega) (fun w hc => l4s_zero cb w hc) w hc) w hc

theorem pqr_at (k : Nat) (hk : k < 3) : ∃ x : ByteArray, x.size ≤ 1 ∧ ∀ y : World, (Instr.slice 9 (.string (ByteArray.mk #[112, 113, 114])) (some (.int .i64 (k : Int))) (some (.int .i64 ((k : Int) + 1))) none).run Try.prog y = .ok (.string x) y := by
  have : k = 0 ∨ k = 1 ∨ k = 2 := by omega
  rcases this with rfl | rfl | rfl
  · exact ⟨(ByteArray.mk #[112]), Nat.le_refl _, fun y => by kernel_rfl⟩
  · exact ⟨(ByteArray.mk #[113]), Nat.le_refl _, fun y => by kernel_rfl⟩
  · exact ⟨(ByteArray.mk #[114]), Nat.le_refl _, fun y => by kernel_rfl⟩

set_option maxHeartbeats 8000000 in
theorem l4src_any (cb : Nat) (w : World) (hc : Cur w cb) : Calls Try.prog 10 #[.pointer (some ⟨cb, 0, none⟩)] w (DText cb 30000 w) := by
  go_enter Try.func10, Try.ntmps10
  go_wp2_with fail
  refine (l1Below_any cb 3 _ hc).mono ?_
  rintro e w1 ⟨⟨n, rfl, n0, n1⟩, hc1, hg1⟩
  have n2 := n1 (by omega)
  clear n1
  go_wp2_with fail
  go_loopw [3, 5] (fun t3 t5 wr => ∃ (s : ByteArray) (k : Nat), t3 = .string s ∧ t5 = .int .i64 (k : Int) ∧ k ≤ 3 ∧ s.size ≤ k * 9000 ∧ Cur wr cb ∧ w.grownBy wr (some cb)) (fun _ t5 _ => 4 - (intOf t5).toNat)
  case atStart => exact ⟨_, 0, rfl, rfl, by omega, by show 0 ≤ _; omega, hc1, hg1⟩
  case round =>
    rename World => wo
    obtain ⟨s, k, rfl, rfl, hk, hs, hco, hgo⟩ := hrel
    clear hc1 hg1
    by_cases hlt : (k : Int) < 1 + n
    · obtain ⟨x, hx, hsl⟩ := pqr_at k (by omega)
      have l1 : ¬ 9223372036854775807 < s.size + 5 := by omega
      have l2 : ¬ 9223372036854775807 < s.size + 5 + x.size := by omega
      have l3 : ¬ 9223372036854775807 < s.size + 5 + x.size + 1 := by omega
      have hw1 : IntKind.i64.wrap ((k : Int) + 1) = (k : Int) + 1 := by rw [IntKind.wrap_i64]; omega
      have bD := (Below.refl wo.heap.size wo).drew
      have hcD := hco.stays bD
      go_wp2_with fail
      refine region_last (fun y => True) (by kernel_rfl) (by kernel_rfl) (by kernel_rfl) trivial (fun hHeld => ?_)
      simp only [List.dropLast, List.length_cons, List.length_nil, Nat.reduceAdd]
      refine takeL (i := 0) (v := ?_) rfl (by kernel_rfl) (by kernel_rfl) (by kernel_rfl) (fun _ _ _ h => h) rfl (by assumption) ?_ ?_
      rotate_left
      · (intro wS hSw; (try dsimp only at hSw); go_simp; try with_reducible rfl)
      (try simp only [Act.put, List.setIfInBounds_toArray, List.set_cons_zero, List.set_cons_succ])
      refine takeL (i := 1) (v := ?_) rfl (by kernel_rfl) (by kernel_rfl) (by kernel_rfl) (fun _ _ _ h => h) rfl (by assumption) ?_ ?_
      rotate_left
      · (intro wS hSw; (try dsimp only at hSw); go_simp; try with_reducible rfl)
      (try simp only [Act.put, List.setIfInBounds_toArray, List.set_cons_zero, List.set_cons_succ])
      refine takeL (i := 2) (v := ?_) rfl (by kernel_rfl) (by kernel_rfl) (by kernel_rfl) (fun _ _ _ h => h) rfl (by assumption) ?_ ?_
      rotate_left
      · (intro wS hSw; (try dsimp only at hSw); go_simp; try with_reducible rfl)
      (try simp only [Act.put, List.setIfInBounds_toArray, List.set_cons_zero, List.set_cons_succ])
      refine takeL (i := 3) (v := ?_) rfl (by kernel_rfl) (by kernel_rfl) (by kernel_rfl) (fun _ _ _ h => h) rfl (by assumption) ?_ ?_
      rotate_left
      · (intro wS hSw; (try dsimp only at hSw); go_simp; try with_reducible rfl)
      (try simp only [Act.put, List.setIfInBounds_toArray, List.set_cons_zero, List.set_cons_succ])
      refine takeL (i := 4) (v := ?_) rfl (by kernel_rfl) (by kernel_rfl) (by kernel_rfl) (fun _ _ _ h => h) rfl (by assumption) ?_ ?_
      rotate_left
      · (intro wS hSw; (try dsimp only at hSw); go_simp; try with_reducible rfl)
      (try simp only [Act.put, List.setIfInBounds_toArray, List.set_cons_zero, List.set_cons_succ])
      refine takeL (i := 5) (v := ?_) rfl (by kernel_rfl) (by kernel_rfl) (by kernel_rfl) (fun _ _ _ h => h) rfl (by assumption) ?_ ?_
      rotate_left
      · (intro wS hSw; (try dsimp only at hSw); go_simp; try with_reducible rfl)
      (try simp only [Act.put, List.setIfInBounds_toArray, List.set_cons_zero, List.set_cons_succ])
      refine takeL (i := 6) (v := ?_) rfl (by kernel_rfl) (by kernel_rfl) (by kernel_rfl) (fun _ _ _ h => h) rfl (by assumption) ?_ ?_
      rotate_left
      · (intro wS hSw; (try dsimp only at hSw); go_simp; try with_reducible rfl)
      (try simp only [Act.put, List.setIfInBounds_toArray, List.set_cons_zero, List.set_cons_succ])
      refine takeL (i := 7) (v := ?_) rfl (by kernel_rfl) (by kernel_rfl) (by kernel_rfl) (fun _ _ _ h => h) rfl (by assumption) ?_ ?_
      rotate_left
      · (intro wS hSw; (try dsimp only at hSw); go_simp; try with_reducible rfl)
      (try simp only [Act.put, List.setIfInBounds_toArray, List.set_cons_zero, List.set_cons_succ])
      refine takeL (i := 8) (v := ?_) rfl (by kernel_rfl) (by kernel_rfl) (by kernel_rfl) (fun _ _ _ h => h) rfl (by assumption) ?_ ?_
      rotate_left
      · (intro wS hSw; (try dsimp only at hSw); go_simp; try with_reducible rfl)
      (try simp only [Act.put, List.setIfInBounds_toArray, List.set_cons_zero, List.set_cons_succ])
      refine stepL (i := 9) rfl (by kernel_rfl) (fun K hK => ?_)
      rw [if_pos (by rfl)]
      go_simp
      refine hK.out _ _ trivial (fun hHeld2 => ?_)
      clear hK K hHeld
      (try simp only [Act.put, List.setIfInBounds_toArray, List.set_cons_zero, List.set_cons_succ])
      refine stepL (i := 10) rfl (by kernel_rfl) (fun K hK => ?_)
      rw [if_pos (by rfl)]
      go_simp
      go_at_call 23
      refine Calls.mono (dword_any cb 4 _ wo.drew hcD (by kernel_rfl) (by rfl) (by omega) (by omega)) ?_
      rintro e w2 ⟨⟨y, rfl, hy⟩, hc2, hg2⟩
      have g2 := gb_tr hgo (gb_tr (gb_be (some cb) bD) hg2)
      have l4 : ¬ 9223372036854775807 < s.size + 5 + x.size + 1 + y.size := by omega
      have l5 : ¬ 9223372036854775807 < s.size + 5 + x.size + 1 + y.size + 3 := by omega
      (try simp only [])
      refine hK.out _ _ trivial (fun hHeld3 => ?_)
      clear hK K hHeld2
      (try simp only [Act.put, List.setIfInBounds_toArray, List.set_cons_zero, List.set_cons_succ])
      refine takeL (i := 11) (v := ?_) rfl (by kernel_rfl) (by kernel_rfl) (by kernel_rfl) (fun _ _ _ h => h) rfl (by assumption) ?_ ?_
      rotate_left
      · (intro wS hSw; (try dsimp only at hSw); go_simp; try with_reducible rfl)
      (try simp only [Act.put, List.setIfInBounds_toArray, List.set_cons_zero, List.set_cons_succ])
      refine takeL (i := 12) (v := ?_) rfl (by kernel_rfl) (by kernel_rfl) (by kernel_rfl) (fun _ _ _ h => h) rfl (by assumption) ?_ ?_
      rotate_left
      · (intro wS hSw; (try dsimp only at hSw); go_simp; try with_reducible rfl)
      (try simp only [Act.put, List.setIfInBounds_toArray, List.set_cons_zero, List.set_cons_succ])
      refine wpAnyH_done (by kernel_rfl) ?_ _
      refine lastL (n := 13) rfl rfl ?_
      go_simp
      clear hHeld3
      go_wp2_with fail
      refine (l1Below_any cb 3 _ hc2).mono ?_
      rintro e w3 ⟨⟨j0, rfl, j1, j2⟩, hc3, hg3⟩
      have j3 := j2 (by omega)
      have g3 := gb_tr g2 hg3
      clear j2 hg3 hg2 hc2 g2 hcD bD hco hgo
      have hs1 : (s ++ (ByteArray.mk #[112, 114, 111, 99, 32]) ++ x ++ (ByteArray.mk #[40]) ++ y ++ (ByteArray.mk #[41, 32, 123])).size ≤ k * 9000 + 40 := by
        simp only [cat_size]
        show _ + 5 + _ + 1 + _ + 3 ≤ _
        omega
      clear l1 l2 l3 l4 l5 hsl hw1
      generalize (s ++ (ByteArray.mk #[112, 114, 111, 99, 32]) ++ x ++ (ByteArray.mk #[40]) ++ y ++ (ByteArray.mk #[41, 32, 123])) = s1 at hs1 ⊢
      generalize wo = wO at *
      go_wp2_with fail
      go_loopw [3, 6] (fun t3 t6 wr => ∃ (s2 : ByteArray) (j : Int), t3 = .string s2 ∧ t6 = .int .i64 j ∧ 0 ≤ j ∧ j ≤ 3 ∧ s2.size + 2101 * j.toNat ≤ k * 9000 + 6400 ∧ Cur wr cb ∧ w.grownBy wr (some cb)) (fun _ t6 _ => (intOf t6).toNat)
      case atStart => exact ⟨s1, _, rfl, rfl, by omega, by omega, by omega, hc3, g3⟩
      case round =>
        rename World => wi
        obtain ⟨s2, j, rfl, rfl, hj0, hj3, hs2, hci, hgi⟩ := hrel
        clear hc3 g3 hs1
        by_cases hj : 0 < j
        · go_wp2_with fail
          refine Calls.mono (l4s_two cb _ hci) ?_
          rintro e w4 ⟨⟨u, rfl, hu⟩, hc4, hg4⟩
          have g4 := gb_tr hgi hg4
          go_wp2
          go_roundw
          case rel => exact ⟨_, j - 1, rfl, rfl, by omega, by omega, by simp only [cat_size]; show _ + 1 + _ + _ ≤ _; omega, hc4, g4⟩
          case measure => simp [intOf]; omega
        · go_wp2_with fail
          refine Calls.mono (dword_any cb 3 _ wi hci (by kernel_rfl) (by rfl) (by omega) (by omega)) ?_
          rintro e w4 ⟨⟨u, rfl, hu⟩, hc4, hg4⟩
          have g4 := gb_tr hgi hg4
          go_wp2
          go_roundw
          case rel => exact ⟨_, k + 1, rfl, by go_num, by omega, by simp only [cat_size]; show _ + _ + 3 ≤ _; omega, hc4, g4⟩
          case measure => simp [intOf]; omega
    · go_wp2
      go_ret
      exact ⟨⟨s, rfl, by omega⟩, hco, hgo⟩

theorem Cur.low {w w' : World} {cb : Nat} (h : Cur w cb) (hk : ∀ g, g ≤ cb → w'.heap[g]? = w.heap[g]?) : Cur w' cb := by
  obtain ⟨a, n, cap, i, hh, h1, h2, h3, h4, h5⟩ := h
  refine ⟨a, n, cap, i, hh, h1, h2, h3, h4.of_block (hk cb (Nat.le_refl _)), fun hp => ?_⟩
  obtain ⟨b, off, e1, e2, e3⟩ := h5 hp
  refine ⟨b, off, e1, e2, fun j hj => ?_⟩
  obtain ⟨x, x0, x1, x2⟩ := e3 j hj
  exact ⟨x, x0, x1, cell_same (hk b (by omega)) x2⟩

theorem infoU8 : (Try.prog.info? 5).map (fun i => (i.zero, i.size, i.bytes)) = some (some (.int .u8 0), 1, 1) := by kernel_rfl

attribute [local go_sem] byte_eq in
set_option maxHeartbeats 4000000 in
/-- A sign out of some. -/
theorem l1of_any (cb : Nat) (x : ByteArray) (w : World) (hc : Cur w cb) (hx0 : 0 < x.size) (hx1 : x.size ≤ 200) : Calls Try.prog 26 #[.pointer (some ⟨cb, 0, none⟩), .int .i64 1, .string x] w (DText cb 1 w) := by
  have hcl := hc.lt
  obtain ⟨iI, hII, hzi0, hzi1, hzi2⟩ := info_parts infoU8
  go_enter Try.func26, Try.ntmps26
  go_wp2
  go_loopw [7, 8] (fun t7 t8 wr => Cur wr cb ∧ w.grownBy wr (some cb) ∧ ((t7 = .slice none 0 0 ∧ t8 = .int .i64 0) ∨ (∃ (g c : Nat) (b : UInt8), t7 = .slice (some ⟨g, 0, none⟩) 1 c ∧ t8 = .int .i64 1 ∧ wr.cell? ⟨g, 0, none⟩ = some (.int .u8 (b.toNat : Int))))) (fun _ t8 _ => 1 - (intOf t8).toNat)
  case atStart => exact ⟨hc, gb_be _ (Below.refl _ _), .inl ⟨rfl, rfl⟩⟩
  case round =>
    rename World => wo
    obtain ⟨hco, hgo, ⟨rfl, rfl⟩ | ⟨g, c, b, rfl, rfl, hcell⟩⟩ := hrel
    · go_wp2_with fail
      refine (l1Below_any cb _ _ hco).mono ?_
      rintro e w1 ⟨⟨z, rfl, z0, z1⟩, hc1, hg1⟩
      have z2 := z1 (by omega)
      clear z1
      obtain ⟨k, rfl⟩ := Int.eq_ofNat_of_zero_le z0
      have g1 := gb_tr hgo hg1
      have hz1 := g1.size
      have hbb : ((UInt8.ofNat (bAt x k).toNat).toNat : Int) = bAt x k := by
        have h0 := bAt_nonneg x k
        have h1 := bAt_lt x k
        rw [UInt8.toNat_ofNat']
        omega
      go_wp2_with (at_builtin; refine wpList_append_lies _ rfl _ _ 22 rfl w.heap.size 5 iI _ 1 1 Try.underlying22 hII hzi0 hzi1 hzi2 rfl (by decide) _ 0 [] rfl (World.ownsRow_nil _ _ _ _) ⟨w1.heap.size, 0, none⟩ 1 1 [.int .u8 (bAt x k)] rfl rfl (World.news_of_block (heap_alloc_new w1 _)) (by simp [Value.oneCell']) (by simp) (by unfold maxLen; omega) (by omega) (by simp; omega) (w1.heap.size + 1) (by simp) ?_; intro g6 cap6 w6 hown6 hgrow6 hat6 hlt6)
      have hc6 : w6.cell? ⟨g6, 0, none⟩ = some (.int .u8 (bAt x k)) := by
        have h := hown6.cellAt 0 (by omega)
        rw [h]; rfl
      have hk6 : ∀ g, g < w1.heap.size → w6.heap[g]? = w1.heap[g]? := fun g hg => (hgrow6.block g (by simp; omega) (fun e => by cases e)).trans (Below.heap_alloc _ _ _ hg)
      have hC6 := hc1.low (w' := w6) fun g hg => hk6 g (by have := hc1.lt; omega)
      have hG6 : w.grownBy w6 (some cb) := ⟨hgrow6.os.trans g1.os, hgrow6.tape.trans g1.tape, hgrow6.output.trans g1.output, by have := hgrow6.size; simp at this; omega, fun j hj hr => by rw [hk6 j (by omega)]; exact g1.block j hj hr⟩
      rw [← hbb] at hc6
      clear hown6 hgrow6 hat6 hlt6
      go_wp2
      go_roundw
      case rel => exact ⟨hC6, hG6, .inr ⟨g6, cap6, _, rfl, rfl, hc6⟩⟩
      case measure => simp [intOf]
    · have hback := run_convert_bytes_back (P := Try.prog) wo 22 9 5 ⟨g, 0, none⟩ c [b] Try.underlying22 Try.underlying5 Try.underlying9 (fun i hi => by
        have e0 : i = 0 := by simpa using hi
        subst e0
        simpa [Addr.add] using hcell)
      simp only [List.length_cons, List.length_nil, Nat.zero_add] at hback
      go_wp2
      go_ret
      exact ⟨⟨_, rfl, Nat.le_refl _⟩, hco, hgo⟩

set_option maxHeartbeats 4000000 in
/-- A text, bent. -/
theorem l1bend_any (cb : Nat) (s : ByteArray) (w : World) (hc : Cur w cb) (hs : s.size ≤ 100000) : Calls Try.prog 12 #[.pointer (some ⟨cb, 0, none⟩), .string s] w (DText cb (s.size + 1) w) := by
  go_enter Try.func12, Try.ntmps12
  go_wp2_with fail
  refine (l1Below_any cb _ _ hc).mono ?_
  rintro e w1 ⟨⟨z, rfl, z0, z1⟩, hc1, hg1⟩
  have z2 := z1 (by omega)
  clear z1
  obtain ⟨k, rfl⟩ := Int.eq_ofNat_of_zero_le z0
  have hk : k ≤ s.size := by omega
  have hsA : ∀ y : World, (Instr.slice 9 (.string s) none (some (.int .i64 (k : Int))) none).run Try.prog y = .ok (.string (s.extract 0 k)) y := fun y => by
    have m1 : (k : Int) ≤ (s.size : Int) := by omega
    simp [go_sem, m1]
  have hsB : ∀ y : World, (Instr.slice 9 (.string s) (some (.int .i64 (k : Int))) none none).run Try.prog y = .ok (.string (s.extract k s.size)) y := fun y => by
    have m1 : (k : Int) ≤ (s.size : Int) := by omega
    simp [go_sem, m1]
  have eA : (s.extract 0 k).size ≤ k := by rw [extract_size (Nat.zero_le _) hk]; omega
  have eB : (s.extract k s.size).size ≤ s.size - k := by rw [extract_size hk (Nat.le_refl _)]; omega
  generalize s.extract 0 k = A at *
  generalize s.extract k s.size = B at *
  go_wp2_with fail
  refine (l1Below_any cb _ _ hc1).mono ?_
  rintro e w2 ⟨⟨y, rfl, y0, y1⟩, hc2, hg2⟩
  have g2 := gb_tr hg1 hg2
  by_cases hy0 : y = 0
  · subst hy0
    have bD := (Below.refl w2.heap.size w2).drew
    have hcD := hc2.stays bD
    go_wp2_with fail
    refine region_last (fun y => True) (by kernel_rfl) (by kernel_rfl) (by kernel_rfl) trivial (fun hHeld => ?_)
    simp only [List.dropLast, List.length_cons, List.length_nil, Nat.reduceAdd]
    refine takeL (i := 0) (v := ?_) rfl (by kernel_rfl) (by kernel_rfl) (by kernel_rfl) (fun _ _ _ h => h) rfl (by assumption) ?_ ?_
    rotate_left
    · (intro wS hSw; (try dsimp only at hSw); go_simp; try with_reducible rfl)
    (try simp only [Act.put, List.setIfInBounds_toArray, List.set_cons_zero, List.set_cons_succ])
    refine takeL (i := 1) (v := ?_) rfl (by kernel_rfl) (by kernel_rfl) (by kernel_rfl) (fun _ _ _ h => h) rfl (by assumption) ?_ ?_
    rotate_left
    · (intro wS hSw; (try dsimp only at hSw); go_simp; try with_reducible rfl)
    (try simp only [Act.put, List.setIfInBounds_toArray, List.set_cons_zero, List.set_cons_succ])
    refine takeL (i := 2) (v := ?_) rfl (by kernel_rfl) (by kernel_rfl) (by kernel_rfl) (fun _ _ _ h => h) rfl (by assumption) ?_ ?_
    rotate_left
    · (intro wS hSw; (try dsimp only at hSw); go_simp; try with_reducible rfl)
    (try simp only [Act.put, List.setIfInBounds_toArray, List.set_cons_zero, List.set_cons_succ])
    refine takeL (i := 3) (v := ?_) rfl (by kernel_rfl) (by kernel_rfl) (by kernel_rfl) (fun _ _ _ h => h) rfl (by assumption) ?_ ?_
    rotate_left
    · (intro wS hSw; (try dsimp only at hSw); go_simp; try with_reducible rfl)
    (try simp only [Act.put, List.setIfInBounds_toArray, List.set_cons_zero, List.set_cons_succ])
    refine takeL (i := 6) (v := ?_) rfl (by kernel_rfl) (by kernel_rfl) (by kernel_rfl) (fun _ _ _ h => h) rfl (by assumption) ?_ ?_
    rotate_left
    · (intro wS hSw; (try dsimp only at hSw); go_simp; try with_reducible rfl)
    (try simp only [Act.put, List.setIfInBounds_toArray, List.set_cons_zero, List.set_cons_succ])
    refine takeL (i := 7) (v := ?_) rfl (by kernel_rfl) (by kernel_rfl) (by kernel_rfl) (fun _ _ _ h => h) rfl (by assumption) ?_ ?_
    rotate_left
    · (intro wS hSw; (try dsimp only at hSw); go_simp; try with_reducible rfl)
    (try simp only [Act.put, List.setIfInBounds_toArray, List.set_cons_zero, List.set_cons_succ])
    refine takeL (i := 8) (v := ?_) rfl (by kernel_rfl) (by kernel_rfl) (by kernel_rfl) (fun _ _ _ h => h) rfl (by assumption) ?_ ?_
    rotate_left
    · (intro wS hSw; (try dsimp only at hSw); go_simp; try with_reducible rfl)
    (try simp only [Act.put, List.setIfInBounds_toArray, List.set_cons_zero, List.set_cons_succ])
    refine stepL (i := 4) rfl (by kernel_rfl) (fun K hK => ?_)
    rw [if_pos (by rfl)]
    go_simp
    go_at_call 26
    refine Calls.mono (l1of_any cb _ w2.drew hcD (by decide) (by decide)) ?_
    rintro e w3 ⟨⟨x, rfl, hx⟩, hc3, hg3⟩
    have g3 := gb_tr g2 (gb_tr (gb_be (some cb) bD) hg3)
    have l1 : ¬ 9223372036854775807 < A.size + x.size := by omega
    have l2 : ¬ 9223372036854775807 < A.size + x.size + B.size := by omega
    (try simp only [])
    refine hK.out _ _ trivial (fun hHeld3 => ?_)
    clear hK K hHeld
    (try simp only [Act.put, List.setIfInBounds_toArray, List.set_cons_zero, List.set_cons_succ])
    refine takeL (i := 5) (v := ?_) rfl (by kernel_rfl) (by kernel_rfl) (by kernel_rfl) (fun _ _ _ h => h) rfl (by assumption) ?_ ?_
    rotate_left
    · (intro wS hSw; (try dsimp only at hSw); go_simp; try with_reducible rfl)
    (try simp only [Act.put, List.setIfInBounds_toArray, List.set_cons_zero, List.set_cons_succ])
    refine takeL (i := 9) (v := ?_) rfl (by kernel_rfl) (by kernel_rfl) (by kernel_rfl) (fun _ _ _ h => h) rfl (by assumption) ?_ ?_
    rotate_left
    · (intro wS hSw; (try dsimp only at hSw); go_simp; try with_reducible rfl)
    (try simp only [Act.put, List.setIfInBounds_toArray, List.set_cons_zero, List.set_cons_succ])
    refine wpAnyH_done (by kernel_rfl) ?_ _
    refine lastL (n := 10) rfl rfl ?_
    go_simp
    clear hHeld3
    go_wp2
    go_ret
    exact ⟨⟨_, rfl, by simp only [cat_size]; omega⟩, hc3, g3⟩
  by_cases hy1 : y = 1
  · subst hy1
    go_wp2
    go_ret
    exact ⟨⟨_, rfl, by omega⟩, hc2, g2⟩
  by_cases hkl : k < s.size
  · have hkl' : (k : Int) < (s.size : Int) := by omega
    have hw1 : IntKind.i64.wrap ((k : Int) + 1) = (k : Int) + 1 := by rw [IntKind.wrap_i64]; omega
    have hsC : ∀ y : World, (Instr.slice 9 (.string s) (some (.int .i64 ((k : Int) + 1))) none none).run Try.prog y = .ok (.string (s.extract (k + 1) s.size)) y := fun y => by
      have m1 : ((k + 1 : Nat) : Int) ≤ (s.size : Int) := by omega
      rw [show (k : Int) + 1 = ((k + 1 : Nat) : Int) from by omega]
      generalize k + 1 = e at *
      simp [go_sem, m1]
    have eC : (s.extract (k + 1) s.size).size ≤ s.size - (k + 1) := by rw [extract_size hkl (Nat.le_refl _)]; omega
    generalize s.extract (k + 1) s.size = C at *
    have l1 : ¬ 9223372036854775807 < A.size + C.size := by omega
    have hcD := hc2.stays (Below.refl w2.heap.size w2).drew
    have g3 := gb_tr g2 (gb_be (some cb) (Below.refl w2.heap.size w2).drew)
    go_wp2_with fail
    refine region_last (fun y => True) (by kernel_rfl) (by kernel_rfl) (by kernel_rfl) trivial (fun hHeld => ?_)
    simp only [List.dropLast, List.length_cons, List.length_nil, Nat.reduceAdd]
    refine takeL (i := 0) (v := ?_) rfl (by kernel_rfl) (by kernel_rfl) (by kernel_rfl) (fun _ _ _ h => h) rfl (by assumption) ?_ ?_
    rotate_left
    · (intro wS hSw; (try dsimp only at hSw); go_simp; try with_reducible rfl)
    (try simp only [Act.put, List.setIfInBounds_toArray, List.set_cons_zero, List.set_cons_succ])
    refine takeL (i := 1) (v := ?_) rfl (by kernel_rfl) (by kernel_rfl) (by kernel_rfl) (fun _ _ _ h => h) rfl (by assumption) ?_ ?_
    rotate_left
    · (intro wS hSw; (try dsimp only at hSw); go_simp; try with_reducible rfl)
    (try simp only [Act.put, List.setIfInBounds_toArray, List.set_cons_zero, List.set_cons_succ])
    refine takeL (i := 2) (v := ?_) rfl (by kernel_rfl) (by kernel_rfl) (by kernel_rfl) (fun _ _ _ h => h) rfl (by assumption) ?_ ?_
    rotate_left
    · (intro wS hSw; (try dsimp only at hSw); go_simp; try with_reducible rfl)
    (try simp only [Act.put, List.setIfInBounds_toArray, List.set_cons_zero, List.set_cons_succ])
    refine takeL (i := 3) (v := ?_) rfl (by kernel_rfl) (by kernel_rfl) (by kernel_rfl) (fun _ _ _ h => h) rfl (by assumption) ?_ ?_
    rotate_left
    · (intro wS hSw; (try dsimp only at hSw); go_simp; try with_reducible rfl)
    (try simp only [Act.put, List.setIfInBounds_toArray, List.set_cons_zero, List.set_cons_succ])
    refine takeL (i := 4) (v := ?_) rfl (by kernel_rfl) (by kernel_rfl) (by kernel_rfl) (fun _ _ _ h => h) rfl (by assumption) ?_ ?_
    rotate_left
    · (intro wS hSw; (try dsimp only at hSw); go_simp; try with_reducible rfl)
    (try simp only [Act.put, List.setIfInBounds_toArray, List.set_cons_zero, List.set_cons_succ])
    refine takeL (i := 5) (v := ?_) rfl (by kernel_rfl) (by kernel_rfl) (by kernel_rfl) (fun _ _ _ h => h) rfl (by assumption) ?_ ?_
    rotate_left
    · (intro wS hSw; (try dsimp only at hSw); go_simp; try with_reducible rfl)
    (try simp only [Act.put, List.setIfInBounds_toArray, List.set_cons_zero, List.set_cons_succ])
    refine takeL (i := 6) (v := ?_) rfl (by kernel_rfl) (by kernel_rfl) (by kernel_rfl) (fun _ _ _ h => h) rfl (by assumption) ?_ ?_
    rotate_left
    · (intro wS hSw; (try dsimp only at hSw); go_simp; try with_reducible rfl)
    (try simp only [Act.put, List.setIfInBounds_toArray, List.set_cons_zero, List.set_cons_succ])
    refine takeL (i := 7) (v := ?_) rfl (by kernel_rfl) (by kernel_rfl) (by kernel_rfl) (fun _ _ _ h => h) rfl (by assumption) ?_ ?_
    rotate_left
    · (intro wS hSw; (try dsimp only at hSw); go_simp; try with_reducible rfl)
    (try simp only [Act.put, List.setIfInBounds_toArray, List.set_cons_zero, List.set_cons_succ])
    refine wpAnyH_done (by kernel_rfl) ?_ _
    refine lastL (n := 8) rfl rfl ?_
    go_simp
    clear hHeld
    go_wp2
    go_ret
    exact ⟨⟨_, rfl, by simp only [cat_size]; omega⟩, hcD, g3⟩
  · have hkl' : ¬ (k : Int) < (s.size : Int) := by omega
    go_wp2
    go_ret
    exact ⟨⟨_, rfl, by rw [cat_size]; exact Nat.le_refl _⟩, hc2, g2⟩

set_option maxHeartbeats 4000000 in
theorem drawParse_any (a : Option Addr) (n cap : Nat) (w : World) (hc : BytesIn w a n) :
    Calls Try.prog 4 #[.slice a n cap] w fun e w' => (∃ s : ByteArray, e = .returned (.string s) ∧ s.size ≤ 40000) ∧ Below w.heap.size w w' := by
  go_enter Try.func4, Try.ntmps4
  go_wp2_with fail
  refine (l1New_any a n cap _ hc).mono ?_
  rintro e w1 ⟨rfl, hC, hb⟩
  have hbl : ∀ x : World, w1.grownBy x (some w.heap.size) → Below w.heap.size w x := fun x hx => hb.grown hx hb.size (fun k hk => by cases hk; exact Nat.le_refl _)
  go_wp2_with fail
  refine Calls.mono (l4src_any _ _ hC) ?_
  rintro e w2 ⟨⟨s, rfl, hs⟩, hc2, hg2⟩
  go_wp2_with fail
  refine (l1Below_any w.heap.size _ _ hc2).mono ?_
  rintro e w3 ⟨⟨y, rfl, y0, y1⟩, hc3, hg3⟩
  have g3 := gb_tr hg2 hg3
  by_cases hy0 : y = 0
  · subst hy0
    go_wp2_with fail
    refine Calls.mono (l1bend_any w.heap.size s _ hc3 (by omega)) ?_
    rintro e w4 ⟨⟨x, rfl, hx⟩, hc4, hg4⟩
    go_wp2
    go_ret
    exact ⟨⟨x, rfl, by omega⟩, hbl _ (gb_tr g3 hg4)⟩
  by_cases hy1 : y = 1
  · subst hy1
    go_wp2_with fail
    refine Calls.mono (l1bend_any w.heap.size s _ hc3 (by omega)) ?_
    rintro e w4 ⟨⟨x, rfl, hx⟩, hc4, hg4⟩
    go_wp2_with fail
    refine Calls.mono (l1bend_any w.heap.size x _ hc4 (by omega)) ?_
    rintro e w5 ⟨⟨u, rfl, hu⟩, hc5, hg5⟩
    go_wp2
    go_ret
    exact ⟨⟨u, rfl, by omega⟩, hbl _ (gb_tr (gb_tr g3 hg4) hg5)⟩
  go_wp2_with fail
  refine (l1Once_any w.heap.size 20 _ hc3).mono ?_
  rintro e w4 ⟨rfl | rfl, hc4, hg4⟩
  · have g4 := gb_tr g3 hg4
    go_wp2_with fail
    refine (l1Below_any w.heap.size _ _ hc4).mono ?_
    rintro e w5 ⟨⟨z, rfl, z0, z1⟩, hc5, hg5⟩
    have z2 := z1 (by omega)
    have g5 := gb_tr g4 hg5
    go_wp2_with fail
    go_loopw [5, 6] (fun t5 t6 wr => ∃ (x : ByteArray) (j : Int), t5 = .string x ∧ t6 = .int .i64 j ∧ 0 ≤ j ∧ j ≤ 40 ∧ x.size + 2 * j.toNat ≤ 200 ∧ wr = w5) (fun _ t6 _ => (intOf t6).toNat)
    case atStart => exact ⟨_, _, rfl, rfl, by omega, by omega, by show 1 + _ ≤ _; omega, rfl⟩
    case round =>
      rename World => wo
      obtain ⟨x, j, rfl, rfl, j0, j1, hx, rfl⟩ := hrel
      by_cases hj : 0 < j
      · go_wp2
        go_roundw
        case rel => exact ⟨_, j - 1, rfl, rfl, by omega, by omega, by simp only [cat_size]; show 1 + _ + 1 + _ ≤ _; omega, trivial⟩
        case measure => simp [intOf]; omega
      · go_wp2
        go_ret
        exact ⟨⟨_, rfl, by simp only [cat_size]; show 15 + _ + 3 ≤ _; omega⟩, hbl _ g5⟩
  · go_wp2
    go_ret
    exact ⟨⟨s, rfl, by omega⟩, hbl _ (gb_tr g3 hg4)⟩

end Go.Proofs.Ytkdlgglikhbnkac
