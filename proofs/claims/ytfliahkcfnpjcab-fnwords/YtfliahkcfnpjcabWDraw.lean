/- The draw of a text of words. -/
import Derived.Test.YtfliahkcfnpjcabLDraw
import Derived.Test.YtfliahkcfnpjcabLex0
import Derived.Handy
namespace Go.Proofs.Ytfliahkcfnpjcab
open Go.ChangeShapes Go.WideShapes Go.ChangeAt Go.RowKit Go.Sort
set_option linter.unusedVariables false
set_option maxRecDepth 100000
attribute [local go_sem ↓] Go.wp_at_zero Go.wp_at_succ

/-- Block b holds m short texts. -/
def Texts (w : World) (b m : Nat) : Prop := ∀ j, j < m → ∃ x : ByteArray, w.cell? ⟨b, j, none⟩ = some (.string x) ∧ x.size ≤ 22
def okText : Value → Bool
  | .string x => decide (x.size ≤ 22)
  | _ => false
theorem texts_new (w : World) (C : Array Value) (T : TypeId) (h : C.all okText = true) : Texts (w.alloc (.cells C T)) w.heap.size C.size := fun j hj => by
  rw [Array.all_eq_true] at h
  have h2 := h j hj
  have e : (w.alloc (.cells C T)).cell? ⟨w.heap.size, j, none⟩ = some C[j] := by simp [go_sem, hj]
  cases hc : C[j] with
  | string x => rw [hc] at h2; exact ⟨x, by rw [e, hc], by simpa [okText] using h2⟩
  | _ => rw [hc] at h2; simp [okText] at h2

theorem l1text_any (cb b m cap : Nat) (w : World) (hc : Cur w cb) (hm : 0 < m) (hm2 : m ≤ 1000) (hT : Texts w b m) (hbl : b < w.heap.size) (hbc : b ≠ cb) :
    Calls Try.prog 16 #[.pointer (some ⟨cb, 0, none⟩), .slice (some ⟨b, 0, none⟩) m cap] w fun e w' => (∃ x : ByteArray, e = .returned (.string x) ∧ x.size ≤ 22) ∧ Cur w' cb ∧ w.grownBy w' (some cb) := by
  go_enter Try.func16, Try.ntmps16
  go_wp2_with fail
  refine (l1Below_any cb (m : Int) _ hc).mono ?_
  rintro e w1 ⟨⟨x, rfl, x0, x1⟩, hc1, hg1⟩
  have x2 := x1 (by omega)
  clear x1
  obtain ⟨k, rfl⟩ := Int.eq_ofNat_of_zero_le x0
  obtain ⟨y, y1, y2⟩ := hT k (by omega)
  have c1 : w1.cell? ⟨b, k, none⟩ = some (.string y) := by
    rw [hg1.cell_far _ hbl (by intro e; injection e with e; exact hbc (by simpa using e))]
    exact y1
  go_wp2
  go_ret
  exact ⟨⟨y, rfl, y2⟩, hc1, hg1⟩

theorem l1Size_any (a : Option Addr) (n cap : Nat) (w : World) (hn : n ≤ maxLen) :
    Calls Try.prog 15 #[.slice a n cap, .int .i64 14] w fun e w' => (∃ x : Int, e = .returned (.int .i64 x) ∧ 2 ≤ x ∧ x ≤ 14) ∧ w' = w := by
  unfold maxLen at hn
  by_cases h : 14 < 2 + (n : Int) / 20
  · go_enter Try.func15, Try.ntmps15
    go_wp2
    go_ret
    exact ⟨⟨14, rfl, by omega, by omega⟩, rfl⟩
  · go_enter Try.func15, Try.ntmps15
    go_wp2
    go_ret
    exact ⟨⟨_, rfl, by omega, by omega⟩, rfl⟩


theorem l3wordsT_any (w : World) :
    Calls Try.prog 17 #[] w fun e w' => ∃ b cap, e = .returned (.slice (some ⟨b, 0, none⟩) 9 cap) ∧ Texts w' b 9 ∧ w.heap.size ≤ b ∧ b < w'.heap.size ∧ Below w.heap.size w w' := by
  go_enter Try.func17, Try.ntmps17
  go_wp2
  go_ret
  exact ⟨_, _, rfl, texts_new _ _ _ (by kernel_rfl), Nat.le_refl _, by simp, by go_grown⟩

theorem cat_size (x y : ByteArray) : (x ++ y).size = x.size + y.size := ByteArray.size_append

set_option maxHeartbeats 4000000 in
theorem drawLex_any (a : Option Addr) (n cap : Nat) (w : World) (hc : BytesIn w a n) :
    Calls Try.prog 5 #[.slice a n cap] w fun e w' => (∃ s : ByteArray, e = .returned (.string s) ∧ s.size ≤ 3000) ∧ Below w.heap.size w w' := by
  go_enter Try.func5, Try.ntmps5
  go_wp2_with fail
  refine (l1New_any a n cap _ hc).mono ?_
  rintro e w1 ⟨rfl, hC, hb⟩
  go_wp2_with fail
  refine (l1Size_any a n cap _ hc.1).mono ?_
  rintro e w2 ⟨⟨y, rfl, y0, y1⟩, rfl⟩
  go_wp2_with fail
  refine (l1Below_any _ y _ hC).mono ?_
  rintro e w3 ⟨⟨x, rfl, x0, x1⟩, hC3, hg3⟩
  have x14 : x ≤ 13 := by have := x1 (by omega); omega
  have b3 : Below w.heap.size w w3 := hb.grown hg3 hb.size (fun k hk => by cases hk; exact Nat.le_refl _)
  clear x1 hC hg3 hb hc
  go_wp2_with fail
  go_loopw [4, 5] (fun t4 t5 wr => ∃ (s : ByteArray) (k : Int), t4 = .string s ∧ t5 = .int .i64 k ∧ 0 ≤ k ∧ k ≤ 13 ∧ s.size + 44 * k.toNat ≤ 572 ∧ Cur wr w.heap.size ∧ Below w.heap.size w wr) (fun _ t5 _ => (intOf t5).toNat)
  case atStart => exact ⟨_, _, rfl, rfl, x0, x14, by show 0 + _ ≤ _; omega, hC3, b3⟩
  case round =>
    rename World => wo
    obtain ⟨s, k, rfl, rfl, k0, k13, hs, hCo, bo⟩ := hrel
    by_cases hk : 0 < k
    · go_wp2_with fail
      refine (l1Below_any _ 5 _ hCo).mono ?_
      rintro e w4 ⟨⟨z, rfl, z0, z1⟩, hC4, hg4⟩
      have z5 := z1 (by omega)
      clear z1
      have b4 : Below w.heap.size w w4 := bo.grown hg4 bo.size (fun k hk => by cases hk; exact Nat.le_refl _)
      have hz4 := b4.size
      have hcl := hC4.lt
      have hzz : z = 0 ∨ z = 1 ∨ z = 2 ∨ z = 3 ∨ z = 4 := by omega
      clear hC3 b3 x0 x14 hg4 z0 z5
      rcases hzz with rfl | rfl | rfl | rfl | rfl
      · -- 0
        go_wp2_with fail
        refine (l3wordsT_any _).mono ?_
        rintro e wl ⟨bl, cl, rfl, hT, hbl, hbl2, hbw⟩
        have bl4 := b4.trans (hbw.mono hz4)
        go_wp2_with fail
        refine Calls.mono (l1text_any w.heap.size _ 9 _ _ (hC4.stays hbw) (by omega) (by omega) hT hbl2 (by omega)) ?_
        rintro e w5 ⟨⟨x5, rfl, hx5⟩, hC5, hg5⟩
        have b5 : Below w.heap.size w w5 := bl4.grown hg5 bl4.size (fun k hk => by cases hk; exact Nat.le_refl _)
        have hz5 := b5.size
        go_wp2_with fail
        refine Calls.mono (l1text_any w.heap.size _ 4 _ _ (hC5.stays ?hb1) (by omega) (by omega) (texts_new _ _ _ (by kernel_rfl)) (by simp) (by have := hC5.lt; omega)) ?_
        case hb1 => exact (Below.refl _ _).alloc (Nat.le_refl _) _
        rintro e w6 ⟨⟨x6, rfl, hx6⟩, hC6, hg6⟩
        have b6 : Below w.heap.size w w6 := (b5.alloc b5.size _).grown hg6 (by simp; omega) (fun k hk => by cases hk; omega)
        go_wp2
        go_roundw
        case rel => exact ⟨_, _, rfl, rfl, by omega, by omega, by simp only [cat_size]; omega, hC6, b6⟩
        case measure => simp [intOf]; omega
      · -- 1
        go_wp2_with fail
        refine Calls.mono (l1text_any w.heap.size _ 16 _ _ (hC4.stays ?hb0) (by omega) (by omega) (texts_new _ _ _ (by kernel_rfl)) (by simp) (by omega)) ?_
        case hb0 => exact (Below.refl _ _).alloc (Nat.le_refl _) _
        rintro e w5 ⟨⟨x5, rfl, hx5⟩, hC5, hg5⟩
        have b5 : Below w.heap.size w w5 := (b4.alloc b4.size _).grown hg5 (by simp; omega) (fun k hk => by cases hk; omega)
        have hz5 := b5.size
        go_wp2_with fail
        refine Calls.mono (l1text_any w.heap.size _ 4 _ _ (hC5.stays ?hb1) (by omega) (by omega) (texts_new _ _ _ (by kernel_rfl)) (by simp) (by have := hC5.lt; omega)) ?_
        case hb1 => exact (Below.refl _ _).alloc (Nat.le_refl _) _
        rintro e w6 ⟨⟨x6, rfl, hx6⟩, hC6, hg6⟩
        have b6 : Below w.heap.size w w6 := (b5.alloc b5.size _).grown hg6 (by simp; omega) (fun k hk => by cases hk; omega)
        go_wp2
        go_roundw
        case rel => exact ⟨_, _, rfl, rfl, by omega, by omega, by simp only [cat_size]; omega, hC6, b6⟩
        case measure => simp [intOf]; omega
      · -- 2
        go_wp2_with fail
        refine Calls.mono (l1text_any w.heap.size _ 5 _ _ (hC4.stays ?hb0) (by omega) (by omega) (texts_new _ _ _ (by kernel_rfl)) (by simp) (by omega)) ?_
        case hb0 => exact (Below.refl _ _).alloc (Nat.le_refl _) _
        rintro e w5 ⟨⟨x5, rfl, hx5⟩, hC5, hg5⟩
        have b5 : Below w.heap.size w w5 := (b4.alloc b4.size _).grown hg5 (by simp; omega) (fun k hk => by cases hk; omega)
        have hz5 := b5.size
        go_wp2_with fail
        refine Calls.mono (l1text_any w.heap.size _ 4 _ _ (hC5.stays ?hb1) (by omega) (by omega) (texts_new _ _ _ (by kernel_rfl)) (by simp) (by have := hC5.lt; omega)) ?_
        case hb1 => exact (Below.refl _ _).alloc (Nat.le_refl _) _
        rintro e w6 ⟨⟨x6, rfl, hx6⟩, hC6, hg6⟩
        have b6 : Below w.heap.size w w6 := (b5.alloc b5.size _).grown hg6 (by simp; omega) (fun k hk => by cases hk; omega)
        go_wp2
        go_roundw
        case rel => exact ⟨_, _, rfl, rfl, by omega, by omega, by simp only [cat_size]; omega, hC6, b6⟩
        case measure => simp [intOf]; omega
      · -- 3
        go_wp2_with fail
        refine Calls.mono (l1text_any w.heap.size _ 5 _ _ (hC4.stays ?hb0) (by omega) (by omega) (texts_new _ _ _ (by kernel_rfl)) (by simp) (by omega)) ?_
        case hb0 => exact (Below.refl _ _).alloc (Nat.le_refl _) _
        rintro e w5 ⟨⟨x5, rfl, hx5⟩, hC5, hg5⟩
        have b5 : Below w.heap.size w w5 := (b4.alloc b4.size _).grown hg5 (by simp; omega) (fun k hk => by cases hk; omega)
        have hz5 := b5.size
        go_wp2_with fail
        refine Calls.mono (l1text_any w.heap.size _ 4 _ _ (hC5.stays ?hb1) (by omega) (by omega) (texts_new _ _ _ (by kernel_rfl)) (by simp) (by have := hC5.lt; omega)) ?_
        case hb1 => exact (Below.refl _ _).alloc (Nat.le_refl _) _
        rintro e w6 ⟨⟨x6, rfl, hx6⟩, hC6, hg6⟩
        have b6 : Below w.heap.size w w6 := (b5.alloc b5.size _).grown hg6 (by simp; omega) (fun k hk => by cases hk; omega)
        go_wp2
        go_roundw
        case rel => exact ⟨_, _, rfl, rfl, by omega, by omega, by simp only [cat_size]; omega, hC6, b6⟩
        case measure => simp [intOf]; omega
      · -- 4
        go_wp2_with fail
        refine Calls.mono (l1text_any w.heap.size _ 4 _ _ (hC4.stays ?hb0) (by omega) (by omega) (texts_new _ _ _ (by kernel_rfl)) (by simp) (by omega)) ?_
        case hb0 => exact (Below.refl _ _).alloc (Nat.le_refl _) _
        rintro e w5 ⟨⟨x5, rfl, hx5⟩, hC5, hg5⟩
        have b5 : Below w.heap.size w w5 := (b4.alloc b4.size _).grown hg5 (by simp; omega) (fun k hk => by cases hk; omega)
        have hz5 := b5.size
        go_wp2_with fail
        refine Calls.mono (l1text_any w.heap.size _ 4 _ _ (hC5.stays ?hb1) (by omega) (by omega) (texts_new _ _ _ (by kernel_rfl)) (by simp) (by have := hC5.lt; omega)) ?_
        case hb1 => exact (Below.refl _ _).alloc (Nat.le_refl _) _
        rintro e w6 ⟨⟨x6, rfl, hx6⟩, hC6, hg6⟩
        have b6 : Below w.heap.size w w6 := (b5.alloc b5.size _).grown hg6 (by simp; omega) (fun k hk => by cases hk; omega)
        go_wp2
        go_roundw
        case rel => exact ⟨_, _, rfl, rfl, by omega, by omega, by simp only [cat_size]; omega, hC6, b6⟩
        case measure => simp [intOf]; omega
    · have hk0 : k = 0 := by omega
      subst hk0
      go_wp2
      go_ret
      exact ⟨⟨_, rfl, by omega⟩, bo⟩

end Go.Proofs.Ytfliahkcfnpjcab
