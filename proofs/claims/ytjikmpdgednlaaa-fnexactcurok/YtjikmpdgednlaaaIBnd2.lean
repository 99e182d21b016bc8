/- The program's bounds of statements. -/
import Derived.Test.YtjikmpdgednlaaaIBnd
namespace Go.Proofs.Ytjikmpdgednlaaa
open Go.ChangeShapes Go.WideShapes Go.ChangeAt Go.RowKit
set_option linter.unusedVariables false
set_option maxRecDepth 100000
attribute [local go_sem ↓] Go.wp_at_zero Go.wp_at_succ

theorem hasElse_any (K : Int) (s : ByteArray) (N : Int) (ka : Option Addr) (m kc : Nat) (a : Option Addr) (q c : Nat) (w : World) :
    Calls Try.prog 93 #[.agg #[.int .i64 K, .string s, .int .i64 N, .slice ka m kc, .slice a q c]] w fun e w' => e = .returned (.bool (decide (m = 3))) ∧ Below w.heap.size w w' := by
  have bA : Below w.heap.size w (w.alloc (Obj.cells #[.int .i64 K, .string s, .int .i64 N, .slice ka m kc, .slice a q c] 121)) := (Below.refl _ _).alloc (Nat.le_refl _) _
  by_cases h : m = 3
  · subst h
    go_enter Try.func93, Try.ntmps93
    go_wp2
    go_ret
    exact ⟨rfl, bA⟩
  · have h' : ((m : Int) == 3) = false := beq_eq_false_iff_ne.2 (by omega)
    rw [decide_eq_false h]
    go_enter Try.func93, Try.ntmps93
    go_wp2
    go_ret
    exact ⟨rfl, bA⟩

theorem sort_block {l : List Nd} {x : Nat} {k : Int} {j : Nat} (h : sortI (ndAt l x).k = kidI k j) (h2 : kidI k j = 2) : (ndAt l x).k = 27 := sort2.1 (h.trans h2)

set_option maxHeartbeats 16000000 in
theorem sbnd_step {a : Option Addr} {c : Nat} {l : List Nd} {lo hi d : Nat} (hn : NodesOk l) (ht : TimesOk l) (IH : BBndAt a c l lo hi d) : SBndAt a c l lo hi (d + 1) := by
  intro k hkd hkl hks
  have HK : Hid (∀ j, j < (ndAt l k).kids.length → ∃ x : Nat, iAt (ndAt l k).kids j = (x : Int) ∧ x < k ∧ x < l.length ∧ sortI (ndAt l x).k = kidI (ndAt l k).k j) := fun j hj => by
    obtain ⟨x, h1, h2, h3, h4⟩ := hn.kid hkl hj
    exact ⟨x, h1, h2, h3, h4⟩
  have HI : Hid (BBndAt a c l lo hi d) := IH
  have hTl := (hn k hkl).lo
  have hTh := (hn k hkl).hi
  have hT23 := @stpF_if l d k
  have hT24 := @stpF_for l d k
  have hTe := @stpF_else l d k
  have hTt := ht k hkl
  obtain ⟨⟨K, s, N, kids⟩, hnd⟩ : ∃ x, ndAt l k = x := ⟨_, rfl⟩
  simp only [hnd] at HK hTl hTh hT23 hT24 hTe hTt hks ⊢
  clear hnd
  obtain ⟨TOP, hTOP⟩ : ∃ r, stpF l (d + 1) k = r := ⟨_, rfl⟩
  rw [hTOP] at hT23 hT24 hTe ⊢
  clear hTOP
  have h27 : ¬ K = 27 := fun e => by rw [e] at hks; exact absurd hks (by decide)
  by_cases h23 : K = 23
  · subst h23
    have hTOP := hT23 rfl
    have hlo : 2 ≤ kids.length ∧ kids.length ≤ 3 := by
      have h3 : (2 : Int) ≤ (kids.length : Int) := hTl
      have h4 : (kids.length : Int) ≤ 3 := hTh
      omega
    obtain ⟨x1, hx1, hxk1, hxl1, hxs1⟩ := HK.out 1 (by omega)
    have hk1 : (ndAt l x1).k = 27 := sort_block hxs1 rfl
    obtain ⟨al, ah⟩ := stpF_nn hn ht d x1 hxl1
    rw [hx1] at hTOP
    have ex1 : ((x1 : Int)).toNat = x1 := rfl
    rw [ex1] at hTOP
    obtain ⟨A, hA⟩ : ∃ A, stpF l d x1 = A := ⟨_, rfl⟩
    have HS1 := fun ka kc w h1 h2 => hA ▸ HI.out x1 (by omega) hxl1 hk1 ka kc w h1 h2
    rw [hA] at hTOP al ah
    change Hid _ at hx1
    clear hxs1 hA hk1 hT23 hT24 hTe hTt
    by_cases hl3 : kids.length = 3
    · obtain ⟨x2, hx2, hxk2, hxl2, hxs2⟩ := HK.out 2 (by omega)
      have hk2 : (ndAt l x2).k = 27 := sort_block hxs2 rfl
      obtain ⟨bl, bh⟩ := stpF_nn hn ht d x2 hxl2
      rw [if_pos hl3, hx2] at hTOP
      have ex2 : ((x2 : Int)).toNat = x2 := rfl
      rw [ex2] at hTOP
      obtain ⟨Bd, hBd⟩ : ∃ A, stpF l d x2 = A := ⟨_, rfl⟩
      have HS2 := fun ka kc w h1 h2 => hBd ▸ HI.out x2 (by omega) hxl2 hk2 ka kc w h1 h2
      rw [hBd] at hTOP bl bh
      change Hid _ at hx2
      clear hxs2 hBd hk2
      refine ⟨1 + max A Bd, hTOP.symm, by omega, by omega, fun ka kc w h hk => ?_⟩
      have LH : Hid (kids.length = 3) := hl3
      have bA : Below w.heap.size w (w.alloc (Obj.cells #[.int .i64 23, .string s, .int .i64 N, .slice ka kids.length kc, .slice a l.length c] 121)) := (Below.refl _ _).alloc (Nat.le_refl _) _
      have y0 : (w.alloc (Obj.cells #[.int .i64 23, .string s, .int .i64 N, .slice ka kids.length kc, .slice a l.length c] 121)).cell? ⟨w.heap.size, 0, none⟩ = some (.int .i64 23) := by simp [go_sem]
      have y1 : (w.alloc (Obj.cells #[.int .i64 23, .string s, .int .i64 N, .slice ka kids.length kc, .slice a l.length c] 121)).cell? ⟨w.heap.size, 1, none⟩ = some (.string s) := by simp [go_sem]
      have y2 : (w.alloc (Obj.cells #[.int .i64 23, .string s, .int .i64 N, .slice ka kids.length kc, .slice a l.length c] 121)).cell? ⟨w.heap.size, 1 + 1, none⟩ = some (.int .i64 N) := by simp [go_sem]
      have y3 : (w.alloc (Obj.cells #[.int .i64 23, .string s, .int .i64 N, .slice ka kids.length kc, .slice a l.length c] 121)).cell? ⟨w.heap.size, 1 + 1 + 1, none⟩ = some (.slice ka kids.length kc) := by simp [go_sem]
      have y4 : (w.alloc (Obj.cells #[.int .i64 23, .string s, .int .i64 N, .slice ka kids.length kc, .slice a l.length c] 121)).cell? ⟨w.heap.size, 1 + 1 + 1 + 1, none⟩ = some (.slice a l.length c) := by simp [go_sem]
      have hN := h.stays bA
      have hKd := hk.stays bA
      change Hid _ at hTOP
      rw [hl3] at y3 hKd hk bA y0 y1 y2 y4 hN ⊢
      clear hl3 hTl hTh hlo
      have key : ∀ e w', e = Ending.returned (.int .i64 (1 + (if A < Bd then Bd else A))) ∧ Below w.heap.size w w' → e = .returned (.int .i64 (1 + max A Bd)) ∧ Below w.heap.size w w' := fun e w' h => by
        refine ⟨h.1.trans ?_, h.2⟩
        congr 2
        split <;> omega
      refine Calls.mono ?_ key
      clear key
      by_cases hab : A < Bd
      · rw [if_pos hab]
        go_enter Try.func90, Try.ntmps90
        go_wp2_with (first | (go_at_call 93; refine (hasElse_any 23 s N ka 3 kc a l.length c _).mono ?_; rw [show decide ((3 : Nat) = 3) = true from rfl]; rintro e wh ⟨rfl, hbh⟩; have v0 := cell_stays hbh y0; have v1 := cell_stays hbh y1; have v2 := cell_stays hbh y2; have v3 := cell_stays hbh y3; have v4 := cell_stays hbh y4; have hN1 := hN.stays hbh; have hK1 := hKd.stays hbh) | (have hZ := hb2b; go_at_call 89; refine (block_any a c l 23 s N ka 3 kc 1 x1 kids _ hN3 hK3 LH.out.symm (by have := LH.out; omega) hx1.out hxl1).mono ?_; rintro e w1a ⟨⟨q1a, q1c, rfl, Q1⟩, hb1a⟩) | (have hZ := hb1a; go_at_call 83; refine (HS1 q1a q1c _ (hN3.stays hb1a) ((Q1.ints hN3 hxl1).stays hb1a)).mono ?_; rintro e w1b ⟨rfl, hb1b⟩) | (go_at_call 89; refine (block_any a c l 23 s N ka 3 kc 2 x2 kids _ hN1 hK1 LH.out.symm (by have := LH.out; omega) hx2.out hxl2).mono ?_; rintro e w2a ⟨⟨q2a, q2c, rfl, Q2⟩, hb2a⟩; have r0 := cell_stays hb2a v0; have r1 := cell_stays hb2a v1; have r2 := cell_stays hb2a v2; have r3 := cell_stays hb2a v3; have r4 := cell_stays hb2a v4) | (go_at_call 83; refine (HS2 q2a q2c _ (hN1.stays hb2a) ((Q2.ints hN1 hxl2).stays hb2a)).mono ?_; rintro e w2b ⟨rfl, hb2b⟩; have t0 := cell_stays hb2b r0; have t1 := cell_stays hb2b r1; have t2 := cell_stays hb2b r2; have t3 := cell_stays hb2b r3; have t4 := cell_stays hb2b r4; have hN3 := (hN1.stays hb2a).stays hb2b; have hK3 := (hK1.stays hb2a).stays hb2b))
        go_ret
        have B1 := bA.trans (hbh.mono bA.size)
        have B2 := B1.trans (hb2a.mono B1.size)
        have B3 := B2.trans (hb2b.mono B2.size)
        have B4 := B3.trans (hb1a.mono B3.size)
        exact ⟨rfl, B4.trans (hb1b.mono B4.size)⟩
      · rw [if_neg hab]
        go_enter Try.func90, Try.ntmps90
        go_wp2_with (first | (go_at_call 93; refine (hasElse_any 23 s N ka 3 kc a l.length c _).mono ?_; rw [show decide ((3 : Nat) = 3) = true from rfl]; rintro e wh ⟨rfl, hbh⟩; have v0 := cell_stays hbh y0; have v1 := cell_stays hbh y1; have v2 := cell_stays hbh y2; have v3 := cell_stays hbh y3; have v4 := cell_stays hbh y4; have hN1 := hN.stays hbh; have hK1 := hKd.stays hbh) | (have hZ := hb2b; go_at_call 89; refine (block_any a c l 23 s N ka 3 kc 1 x1 kids _ hN3 hK3 LH.out.symm (by have := LH.out; omega) hx1.out hxl1).mono ?_; rintro e w1a ⟨⟨q1a, q1c, rfl, Q1⟩, hb1a⟩) | (have hZ := hb1a; go_at_call 83; refine (HS1 q1a q1c _ (hN3.stays hb1a) ((Q1.ints hN3 hxl1).stays hb1a)).mono ?_; rintro e w1b ⟨rfl, hb1b⟩) | (go_at_call 89; refine (block_any a c l 23 s N ka 3 kc 2 x2 kids _ hN1 hK1 LH.out.symm (by have := LH.out; omega) hx2.out hxl2).mono ?_; rintro e w2a ⟨⟨q2a, q2c, rfl, Q2⟩, hb2a⟩; have r0 := cell_stays hb2a v0; have r1 := cell_stays hb2a v1; have r2 := cell_stays hb2a v2; have r3 := cell_stays hb2a v3; have r4 := cell_stays hb2a v4) | (go_at_call 83; refine (HS2 q2a q2c _ (hN1.stays hb2a) ((Q2.ints hN1 hxl2).stays hb2a)).mono ?_; rintro e w2b ⟨rfl, hb2b⟩; have t0 := cell_stays hb2b r0; have t1 := cell_stays hb2b r1; have t2 := cell_stays hb2b r2; have t3 := cell_stays hb2b r3; have t4 := cell_stays hb2b r4; have hN3 := (hN1.stays hb2a).stays hb2b; have hK3 := (hK1.stays hb2a).stays hb2b))
        go_ret
        have B1 := bA.trans (hbh.mono bA.size)
        have B2 := B1.trans (hb2a.mono B1.size)
        have B3 := B2.trans (hb2b.mono B2.size)
        have B4 := B3.trans (hb1a.mono B3.size)
        exact ⟨rfl, B4.trans (hb1b.mono B4.size)⟩
    · have hl2 : kids.length = 2 := by omega
      rw [if_neg hl3] at hTOP
      refine ⟨1 + A, by rw [hTOP]; congr 1; omega, by omega, by omega, fun ka kc w h hk => ?_⟩
      have LH : Hid (kids.length = 2) := hl2
      have bA : Below w.heap.size w (w.alloc (Obj.cells #[.int .i64 23, .string s, .int .i64 N, .slice ka kids.length kc, .slice a l.length c] 121)) := (Below.refl _ _).alloc (Nat.le_refl _) _
      have y0 : (w.alloc (Obj.cells #[.int .i64 23, .string s, .int .i64 N, .slice ka kids.length kc, .slice a l.length c] 121)).cell? ⟨w.heap.size, 0, none⟩ = some (.int .i64 23) := by simp [go_sem]
      have y1 : (w.alloc (Obj.cells #[.int .i64 23, .string s, .int .i64 N, .slice ka kids.length kc, .slice a l.length c] 121)).cell? ⟨w.heap.size, 1, none⟩ = some (.string s) := by simp [go_sem]
      have y2 : (w.alloc (Obj.cells #[.int .i64 23, .string s, .int .i64 N, .slice ka kids.length kc, .slice a l.length c] 121)).cell? ⟨w.heap.size, 1 + 1, none⟩ = some (.int .i64 N) := by simp [go_sem]
      have y3 : (w.alloc (Obj.cells #[.int .i64 23, .string s, .int .i64 N, .slice ka kids.length kc, .slice a l.length c] 121)).cell? ⟨w.heap.size, 1 + 1 + 1, none⟩ = some (.slice ka kids.length kc) := by simp [go_sem]
      have y4 : (w.alloc (Obj.cells #[.int .i64 23, .string s, .int .i64 N, .slice ka kids.length kc, .slice a l.length c] 121)).cell? ⟨w.heap.size, 1 + 1 + 1 + 1, none⟩ = some (.slice a l.length c) := by simp [go_sem]
      have hN := h.stays bA
      have hKd := hk.stays bA
      change Hid _ at hTOP
      rw [hl2] at y3 hKd hk bA y0 y1 y2 y4 hN ⊢
      clear hl3 hl2 hTl hTh hlo
      go_enter Try.func90, Try.ntmps90
      have h0A : ¬ A < 0 := by omega
      go_wp2_with (first | (go_at_call 93; refine (hasElse_any 23 s N ka 2 kc a l.length c _).mono ?_; rw [show decide ((2 : Nat) = 3) = false from rfl]; rintro e wh ⟨rfl, hbh⟩; have v0 := cell_stays hbh y0; have v1 := cell_stays hbh y1; have v2 := cell_stays hbh y2; have v3 := cell_stays hbh y3; have v4 := cell_stays hbh y4; have hN1 := hN.stays hbh; have hK1 := hKd.stays hbh) | (go_at_call 89; refine (block_any a c l 23 s N ka 2 kc 1 x1 kids _ hN1 hK1 LH.out.symm (by have := LH.out; omega) hx1.out hxl1).mono ?_; rintro e w1a ⟨⟨q1a, q1c, rfl, Q1⟩, hb1a⟩) | (go_at_call 83; refine (HS1 q1a q1c _ (hN1.stays hb1a) ((Q1.ints hN1 hxl1).stays hb1a)).mono ?_; rintro e w1b ⟨rfl, hb1b⟩))
      go_ret
      have B1 := bA.trans (hbh.mono bA.size)
      have B4 := B1.trans (hb1a.mono B1.size)
      exact ⟨rfl, B4.trans (hb1b.mono B4.size)⟩
  by_cases h24 : K = 24
  · subst h24
    have hTOP := hT24 rfl
    have hlo : kids.length = 1 := by
      have h3 : (1 : Int) ≤ (kids.length : Int) := hTl
      have h4 : (kids.length : Int) ≤ 1 := hTh
      omega
    obtain ⟨x1, hx1, hxk1, hxl1, hxs1⟩ := HK.out 0 (by omega)
    have hk1 : (ndAt l x1).k = 27 := sort_block hxs1 rfl
    obtain ⟨al, ah⟩ := stpF_nn hn ht d x1 hxl1
    rw [hx1] at hTOP
    have ex1 : ((x1 : Int)).toNat = x1 := rfl
    rw [ex1] at hTOP
    obtain ⟨A, hA⟩ : ∃ A, stpF l d x1 = A := ⟨_, rfl⟩
    have HS1 := fun ka kc w h1 h2 => hA ▸ HI.out x1 (by omega) hxl1 hk1 ka kc w h1 h2
    rw [hA] at hTOP al ah
    change Hid _ at hx1
    obtain ⟨t1, t4⟩ := hTt rfl
    obtain ⟨r1, r2, r3⟩ := rbI_cap t1 t4 (show 0 ≤ 1 + A by omega)
    clear hxs1 hA hk1 hT23 hT24 hTe hTt
    refine ⟨rbI N (1 + A), by rw [r1, hTOP], r2, r3, fun ka kc w h hk => ?_⟩
    have LH : Hid (kids.length = 1) := hlo
    have bA : Below w.heap.size w (w.alloc (Obj.cells #[.int .i64 24, .string s, .int .i64 N, .slice ka kids.length kc, .slice a l.length c] 121)) := (Below.refl _ _).alloc (Nat.le_refl _) _
    have y0 : (w.alloc (Obj.cells #[.int .i64 24, .string s, .int .i64 N, .slice ka kids.length kc, .slice a l.length c] 121)).cell? ⟨w.heap.size, 0, none⟩ = some (.int .i64 24) := by simp [go_sem]
    have y1 : (w.alloc (Obj.cells #[.int .i64 24, .string s, .int .i64 N, .slice ka kids.length kc, .slice a l.length c] 121)).cell? ⟨w.heap.size, 1, none⟩ = some (.string s) := by simp [go_sem]
    have y2 : (w.alloc (Obj.cells #[.int .i64 24, .string s, .int .i64 N, .slice ka kids.length kc, .slice a l.length c] 121)).cell? ⟨w.heap.size, 1 + 1, none⟩ = some (.int .i64 N) := by simp [go_sem]
    have y3 : (w.alloc (Obj.cells #[.int .i64 24, .string s, .int .i64 N, .slice ka kids.length kc, .slice a l.length c] 121)).cell? ⟨w.heap.size, 1 + 1 + 1, none⟩ = some (.slice ka kids.length kc) := by simp [go_sem]
    have y4 : (w.alloc (Obj.cells #[.int .i64 24, .string s, .int .i64 N, .slice ka kids.length kc, .slice a l.length c] 121)).cell? ⟨w.heap.size, 1 + 1 + 1 + 1, none⟩ = some (.slice a l.length c) := by simp [go_sem]
    have hN := h.stays bA
    have hKd := hk.stays bA
    change Hid _ at hTOP
    rw [hlo] at y3 hKd hk bA y0 y1 y2 y4 hN ⊢
    clear hTl hTh hlo r1 r2 r3
    go_enter Try.func90, Try.ntmps90
    go_wp2_with fail
    generalize w.alloc (Obj.cells #[.int .i64 24, .string s, .int .i64 N, .slice ka 1 kc, .slice a l.length c] 121) = wA at *
    generalize hB : w.heap.size = B at *
    have S0 : ∀ x, Below wA.heap.size wA x → x.cell? ⟨B, 0, none⟩ = some (.int .i64 24) ∧ x.cell? ⟨B, 1, none⟩ = some (.string s) ∧ x.cell? ⟨B, 1 + 1, none⟩ = some (.int .i64 N) ∧ x.cell? ⟨B, 1 + 1 + 1, none⟩ = some (.slice ka 1 kc) ∧ x.cell? ⟨B, 1 + 1 + 1 + 1, none⟩ = some (.slice a l.length c) := fun x hx => ⟨cell_stays hx y0, cell_stays hx y1, cell_stays hx y2, cell_stays hx y3, cell_stays hx y4⟩
    have bD := (Below.refl wA.heap.size wA).drew
    refine region_last (fun x => x.cell? ⟨B, 0, none⟩ = some (.int .i64 24) ∧ x.cell? ⟨B, 1, none⟩ = some (.string s) ∧ x.cell? ⟨B, 1 + 1, none⟩ = some (.int .i64 N) ∧ x.cell? ⟨B, 1 + 1 + 1, none⟩ = some (.slice ka 1 kc) ∧ x.cell? ⟨B, 1 + 1 + 1 + 1, none⟩ = some (.slice a l.length c)) (by kernel_rfl) (by kernel_rfl) (by kernel_rfl) (S0 _ bD) (fun hHeld => ?_)
    simp only [List.dropLast, List.length_cons, List.length_nil, Nat.reduceAdd]
    refine takeL (i := 0) (v := ?_) rfl (by kernel_rfl) (by kernel_rfl) (by kernel_rfl) (fun _ _ _ h => h) rfl (by assumption) ?_ ?_
    rotate_left
    · (intro wS hSw; (try dsimp only at hSw); go_simp; try with_reducible rfl)
    (try simp only [Act.put, List.setIfInBounds_toArray, List.set_cons_zero, List.set_cons_succ])
    refine takeL (i := 1) (v := ?_) rfl (by kernel_rfl) (by kernel_rfl) (by kernel_rfl) (fun _ _ _ h => h) rfl (by assumption) ?_ ?_
    rotate_left
    · (intro wS hSw; (try dsimp only at hSw); go_simp; try with_reducible rfl)
    (try simp only [Act.put, List.setIfInBounds_toArray, List.set_cons_zero, List.set_cons_succ])
    refine takeL (i := 2) (v := ?_) rfl (by kernel_rfl) (by kernel_rfl) (by kernel_rfl) (fun _ _ _ h => h) rfl (by assumption) ?_ ?_
    rotate_left
    · (intro wS hSw; (try dsimp only at hSw); go_simp; try with_reducible rfl)
    (try simp only [Act.put, List.setIfInBounds_toArray, List.set_cons_zero, List.set_cons_succ])
    refine takeL (i := 3) (v := ?_) rfl (by kernel_rfl) (by kernel_rfl) (by kernel_rfl) (fun _ _ _ h => h) rfl (by assumption) ?_ ?_
    rotate_left
    · (intro wS hSw; (try dsimp only at hSw); go_simp; try with_reducible rfl)
    (try simp only [Act.put, List.setIfInBounds_toArray, List.set_cons_zero, List.set_cons_succ])
    refine takeL (i := 4) (v := ?_) rfl (by kernel_rfl) (by kernel_rfl) (by kernel_rfl) (fun _ _ _ h => h) rfl (by assumption) ?_ ?_
    rotate_left
    · (intro wS hSw; (try dsimp only at hSw); go_simp; try with_reducible rfl)
    (try simp only [Act.put, List.setIfInBounds_toArray, List.set_cons_zero, List.set_cons_succ])
    refine takeL (i := 5) (v := ?_) rfl (by kernel_rfl) (by kernel_rfl) (by kernel_rfl) (fun _ _ _ h => h) rfl (by assumption) ?_ ?_
    rotate_left
    · (intro wS hSw; (try dsimp only at hSw); go_simp; try with_reducible rfl)
    (try simp only [Act.put, List.setIfInBounds_toArray, List.set_cons_zero, List.set_cons_succ])
    refine stepL (i := 6) rfl (by kernel_rfl) (fun K hK => ?_)
    rw [if_pos (by rfl)]
    go_simp
    go_at_call 89
    refine Calls.mono (block_any a c l 24 s N ka 1 kc 0 x1 kids _ (hN.stays bD) (hKd.stays bD) LH.out.symm (by have := LH.out; omega) hx1.out hxl1) ?_
    rintro e w1a ⟨⟨q1a, q1c, rfl, Q1⟩, hb1a⟩
    have b1 : Below wA.heap.size wA w1a := bD.trans (hb1a.mono bD.size)
    (try simp only [])
    refine hK.out _ _ (S0 _ b1) (fun hHeld2 => ?_)
    clear hK K hHeld
    (try simp only [Act.put, List.setIfInBounds_toArray, List.set_cons_zero, List.set_cons_succ])
    refine stepL (i := 7) rfl (by kernel_rfl) (fun K hK => ?_)
    rw [if_pos (by rfl)]
    go_simp
    go_at_call 83
    refine Calls.mono (HS1 q1a q1c _ (hN.stays b1) ((Q1.ints (hN.stays bD) hxl1).stays hb1a)) ?_
    rintro e w1b ⟨rfl, hb1b⟩
    have b2 : Below wA.heap.size wA w1b := b1.trans (hb1b.mono b1.size)
    (try simp only [])
    refine hK.out _ _ (S0 _ b2) (fun hHeld3 => ?_)
    clear hK K hHeld2
    (try simp only [Act.put, List.setIfInBounds_toArray, List.set_cons_zero, List.set_cons_succ])
    refine takeL (i := 8) (v := ?_) rfl (by kernel_rfl) (by kernel_rfl) (by kernel_rfl) (fun _ _ _ h => h) rfl (by assumption) ?_ ?_
    rotate_left
    · (intro wS hSw; (try dsimp only at hSw); go_simp; try with_reducible rfl)
    (try simp only [Act.put, List.setIfInBounds_toArray, List.set_cons_zero, List.set_cons_succ])
    refine stepL (i := 9) rfl (by kernel_rfl) (fun K hK => ?_)
    rw [if_pos (by rfl)]
    go_simp
    have hw1 : IntKind.i64.wrap (1 + A) = 1 + A := by rw [IntKind.wrap_i64]; omega
    rw [hw1]
    go_at_call 94
    refine Calls.mono (roundsBound_any N (1 + A) _ t1 t4 (by omega) (by omega)) ?_
    rintro e w1c ⟨rfl, rfl⟩
    (try simp only [])
    refine hK.out _ _ (S0 _ b2) (fun hHeld4 => ?_)
    clear hK K hHeld3
    (try simp only [Act.put, List.setIfInBounds_toArray, List.set_cons_zero, List.set_cons_succ])
    refine wpAnyH_done (by kernel_rfl) ?_ _
    refine lastL (n := 10) rfl rfl ?_
    go_simp
    go_wp2
    go_ret
    exact ⟨rfl, by (try rw [hB]); exact bA.trans (b2.mono (by have := bA.size; omega))⟩
  have hTOP := hTe h27 h23 h24
  subst hTOP
  refine ⟨1, rfl, by decide, by decide, fun ka kc w h hk => ?_⟩
  have bA : Below w.heap.size w (w.alloc (Obj.cells #[.int .i64 K, .string s, .int .i64 N, .slice ka kids.length kc, .slice a l.length c] 121)) := (Below.refl _ _).alloc (Nat.le_refl _) _
  have q23 : (K == 23) = false := beq_eq_false_iff_ne.2 h23
  have q24 : (K == 24) = false := beq_eq_false_iff_ne.2 h24
  go_enter Try.func90, Try.ntmps90
  go_wp2
  go_ret
  exact ⟨rfl, bA⟩

theorem bnd_all {a : Option Addr} {c : Nat} {l : List Nd} {lo hi : Nat} (hn : NodesOk l) (ht : TimesOk l) : ∀ d, BBndAt a c l lo hi d ∧ SBndAt a c l lo hi d
  | 0 => ⟨fun k hk => absurd hk (Nat.not_lt_zero _), fun k hk => absurd hk (Nat.not_lt_zero _)⟩
  | d + 1 => ⟨bbnd_step hn ht (bnd_all hn ht d).2, sbnd_step hn ht (bnd_all hn ht d).1⟩

end Go.Proofs.Ytjikmpdgednlaaa
