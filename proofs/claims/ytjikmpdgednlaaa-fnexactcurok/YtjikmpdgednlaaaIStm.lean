/- The program's count of statements. -/
import Derived.Test.YtjikmpdgednlaaaZTree2
import Derived.Test.YtjikmpdgednlaaaZCnt
import Derived.Test.YtjikmpdgednlaaaYKidS
import Derived.Test.YtjikmpdgednlaaaYKidB
namespace Go.Proofs.Ytjikmpdgednlaaa
open Go.ChangeShapes Go.WideShapes Go.ChangeAt Go.RowKit
set_option linter.unusedVariables false
set_option maxRecDepth 100000
attribute [local go_sem ↓] Go.wp_at_zero Go.wp_at_succ

/-- What blocks ahead of d count. -/
def BStmAt (a : Option Addr) (c : Nat) (l : List Nd) (lo hi d : Nat) : Prop := ∀ k, k < d → k < l.length → (ndAt l k).k = 27 → ∀ ka kc w, NodesAt lo hi w (.slice a l.length c) l → IntsAt lo hi w (.slice ka (ndAt l k).kids.length kc) (ndAt l k).kids →
  Calls Try.prog 69 #[.agg #[.int .i64 (ndAt l k).k, .string (ndAt l k).s, .int .i64 (ndAt l k).n, .slice ka (ndAt l k).kids.length kc, .slice a l.length c]] w fun e w' => e = .returned (.int .i64 (wr (cntF l d k))) ∧ Below w.heap.size w w'
/-- What statements ahead of d count. -/
def SStmAt (a : Option Addr) (c : Nat) (l : List Nd) (lo hi d : Nat) : Prop := ∀ k, k < d → k < l.length → sortI (ndAt l k).k = 1 → ∀ ka kc w, NodesAt lo hi w (.slice a l.length c) l → IntsAt lo hi w (.slice ka (ndAt l k).kids.length kc) (ndAt l k).kids →
  Calls Try.prog 82 #[.agg #[.int .i64 (ndAt l k).k, .string (ndAt l k).s, .int .i64 (ndAt l k).n, .slice ka (ndAt l k).kids.length kc, .slice a l.length c]] w fun e w' => e = .returned (.int .i64 (wr (cntF l d k))) ∧ Below w.heap.size w w'

set_option maxHeartbeats 8000000 in
theorem bstm_step {a : Option Addr} {c : Nat} {l : List Nd} {lo hi d : Nat} (hn : NodesOk l) (IH : SStmAt a c l lo hi d) : BStmAt a c l lo hi (d + 1) := by
  intro k hkd hkl hk27 ka kc w h hk
  have HK : Hid (∀ j, j < (ndAt l k).kids.length → ∃ x : Nat, iAt (ndAt l k).kids j = (x : Int) ∧ x < k ∧ x < l.length ∧ sortI (ndAt l x).k = 1) := fun j hj => by
    obtain ⟨x, h1, h2, h3, h4⟩ := hn.kid hkl hj
    rw [hk27] at h4
    exact ⟨x, h1, h2, h3, h4⟩
  have hTOP : cntF l (d + 1) k = cntS l d (ndAt l k).kids := by rw [cntF_succ, hk27, if_neg (by decide)]; omega
  rw [hTOP]
  clear hTOP
  obtain ⟨⟨K, s, N, kids⟩, hnd⟩ : ∃ x, ndAt l k = x := ⟨_, rfl⟩
  simp only [hnd] at hk HK hk27 ⊢
  clear hnd
  subst hk27
  obtain ⟨TOP, hTOP⟩ : ∃ r, wr (cntS l d kids) = r := ⟨_, rfl⟩
  rw [hTOP]
  change Hid _ at hTOP
  have HI : Hid (SStmAt a c l lo hi d) := IH
  have hkm : kids.length ≤ 9223372036854775807 := by obtain ⟨_, _, e, hm, _⟩ := hk; unfold maxLen at hm; omega
  have bA : Below w.heap.size w (w.alloc (Obj.cells #[.int .i64 27, .string s, .int .i64 N, .slice ka kids.length kc, .slice a l.length c] 106)) := (Below.refl _ _).alloc (Nat.le_refl _) _
  have y0 : (w.alloc (Obj.cells #[.int .i64 27, .string s, .int .i64 N, .slice ka kids.length kc, .slice a l.length c] 106)).cell? ⟨w.heap.size, 0, none⟩ = some (.int .i64 27) := by simp [go_sem]
  have y1 : (w.alloc (Obj.cells #[.int .i64 27, .string s, .int .i64 N, .slice ka kids.length kc, .slice a l.length c] 106)).cell? ⟨w.heap.size, 1, none⟩ = some (.string s) := by simp [go_sem]
  have y2 : (w.alloc (Obj.cells #[.int .i64 27, .string s, .int .i64 N, .slice ka kids.length kc, .slice a l.length c] 106)).cell? ⟨w.heap.size, 1 + 1, none⟩ = some (.int .i64 N) := by simp [go_sem]
  have y3 : (w.alloc (Obj.cells #[.int .i64 27, .string s, .int .i64 N, .slice ka kids.length kc, .slice a l.length c] 106)).cell? ⟨w.heap.size, 1 + 1 + 1, none⟩ = some (.slice ka kids.length kc) := by simp [go_sem]
  have y4 : (w.alloc (Obj.cells #[.int .i64 27, .string s, .int .i64 N, .slice ka kids.length kc, .slice a l.length c] 106)).cell? ⟨w.heap.size, 1 + 1 + 1 + 1, none⟩ = some (.slice a l.length c) := by simp [go_sem]
  have hN := h.stays bA
  have hK := hk.stays bA
  go_enter Try.func69, Try.ntmps69
  go_wp2_with fail
  generalize w.alloc (Obj.cells #[.int .i64 27, .string s, .int .i64 N, .slice ka kids.length kc, .slice a l.length c] 106) = wA at *
  generalize hB : w.heap.size = B at *
  go_loopw [3, 10] (fun t3 t10 wr' => ∃ (j : Nat) (z : Int), t3 = .int .i64 z ∧ t10 = .int .i64 (j : Int) ∧ j ≤ kids.length ∧ Hid (z = wr (cntS l d (kids.take j))) ∧ Below wA.heap.size wA wr') (fun _ t10 _ => kids.length - (intOf t10).toNat)
  case atStart => exact ⟨0, _, rfl, rfl, Nat.zero_le _, rfl, Below.refl _ _⟩
  case round =>
    rename World => wo
    obtain ⟨j, z, rfl, rfl, hj, hz, hb⟩ := hrel
    have bO := bA.trans (hb.mono (by have := bA.size; omega))
    have z0 := cell_stays hb y0
    have z1 := cell_stays hb y1
    have z2 := cell_stays hb y2
    have z3 := cell_stays hb y3
    have z4 := cell_stays hb y4
    by_cases hjl : j < kids.length
    · obtain ⟨x, hx, hxk, hxl, hxs⟩ := HK.out j hjl
      have hNo := hN.stays hb
      have hKo := hK.stays hb
      have j0 : (0 : Int) ≤ (j : Int) := by omega
      have j1 : (j : Int) < (kids.length : Int) := by omega
      have hz2 : Hid (wr (z + wr (cntF l d x)) = wr (cntS l d (kids.take (j + 1)))) := by
        show _ = _
        rw [cntS_take hjl, hz.out, hx, wr_add, wr_add']
        rfl
      obtain ⟨y, hy⟩ : ∃ y, wr (cntF l d x) = y := ⟨_, rfl⟩
      have HS := fun ka kc w h1 h2 => hy ▸ HI.out x (by omega) hxl hxs ka kc w h1 h2
      rw [hy] at hz2
      change Hid _ at hx
      clear y0 y1 y2 y3 y4 hz hy hxs
      go_wp2_with (first | (go_at_call 81; refine (statement_any a c l 27 s N ka kids.length kc j x kids _ hNo hKo rfl hjl hx.out hxl).mono ?_; rintro e w3 ⟨⟨qa, qc, rfl, Q⟩, hb3⟩) | (go_at_call 82; refine (HS qa qc _ (hNo.stays hb3) ((Q.ints hNo hxl).stays hb3)).mono ?_; rintro e w4 ⟨rfl, hb4⟩))
      go_roundw
      case rel => exact ⟨j + 1, _, rfl, by go_num, by omega, (wr_64 _).trans hz2.out, (hb.trans (hb3.mono hb.size)).trans (hb4.mono (by have := hb.size; have := hb3.size; omega))⟩
      case measure => simp [intOf]; omega
    · have hjl' : ¬ (j : Int) < (kids.length : Int) := by omega
      have e : z = TOP := by
        have h1 := hz.out
        rw [show j = kids.length by omega, kids_take_all] at h1
        exact h1.trans hTOP.out
      subst e
      clear hz hTOP
      go_wp2
      go_ret
      exact ⟨rfl, by first | exact bO | (rw [hB]; exact bO)⟩

theorem role_is {l : List Nd} (hn : NodesOk l) {x : Nat} (hx : x < l.length) : roleI (ndAt l x).k = sortI (ndAt l x).k + 1 := role_sort (hn x hx).least
theorem sort2 {k : Int} : sortI k = 2 ↔ k = 27 := by
  unfold sortI
  constructor
  · intro h; split at h
    · assumption
    · split at h <;> omega
  · intro h; rw [if_pos h]
theorem kid_stm {K : Int} (h : sortI K = 1) (j : Nat) : kidI K j = 0 ∨ kidI K j = 2 := by
  have h27 : ¬ K = 27 := fun e => by rw [e] at h; exact absurd h (by decide)
  unfold kidI
  rw [if_neg h27]
  split
  · exact .inr rfl
  · split
    · exact .inr rfl
    · exact .inl rfl

set_option maxHeartbeats 8000000 in
theorem sstm_step {a : Option Addr} {c : Nat} {l : List Nd} {lo hi d : Nat} (hn : NodesOk l) (IH : BStmAt a c l lo hi d) : SStmAt a c l lo hi (d + 1) := by
  intro k hkd hkl hks ka kc w h hk
  have HK : Hid (∀ j, j < (ndAt l k).kids.length → ∃ x : Nat, iAt (ndAt l k).kids j = (x : Int) ∧ x < k ∧ x < l.length ∧ (sortI (ndAt l x).k = 0 ∨ sortI (ndAt l x).k = 2)) := fun j hj => by
    obtain ⟨x, h1, h2, h3, h4⟩ := hn.kid hkl hj
    exact ⟨x, h1, h2, h3, by rw [h4]; exact kid_stm hks j⟩
  have hTOP : cntF l (d + 1) k = 1 + cntS l d (ndAt l k).kids := by rw [cntF_succ, if_pos hks]
  rw [hTOP]
  clear hTOP hks
  obtain ⟨⟨K, s, N, kids⟩, hnd⟩ : ∃ x, ndAt l k = x := ⟨_, rfl⟩
  simp only [hnd] at hk HK ⊢
  clear hnd
  obtain ⟨TOP, hTOP⟩ : ∃ r, wr (1 + cntS l d kids) = r := ⟨_, rfl⟩
  rw [hTOP]
  change Hid _ at hTOP
  have HI : Hid (BStmAt a c l lo hi d) := IH
  have hkm : kids.length ≤ 9223372036854775807 := by obtain ⟨_, _, e, hm, _⟩ := hk; unfold maxLen at hm; omega
  have bA : Below w.heap.size w (w.alloc (Obj.cells #[.int .i64 K, .string s, .int .i64 N, .slice ka kids.length kc, .slice a l.length c] 121)) := (Below.refl _ _).alloc (Nat.le_refl _) _
  have y0 : (w.alloc (Obj.cells #[.int .i64 K, .string s, .int .i64 N, .slice ka kids.length kc, .slice a l.length c] 121)).cell? ⟨w.heap.size, 0, none⟩ = some (.int .i64 K) := by simp [go_sem]
  have y1 : (w.alloc (Obj.cells #[.int .i64 K, .string s, .int .i64 N, .slice ka kids.length kc, .slice a l.length c] 121)).cell? ⟨w.heap.size, 1, none⟩ = some (.string s) := by simp [go_sem]
  have y2 : (w.alloc (Obj.cells #[.int .i64 K, .string s, .int .i64 N, .slice ka kids.length kc, .slice a l.length c] 121)).cell? ⟨w.heap.size, 1 + 1, none⟩ = some (.int .i64 N) := by simp [go_sem]
  have y3 : (w.alloc (Obj.cells #[.int .i64 K, .string s, .int .i64 N, .slice ka kids.length kc, .slice a l.length c] 121)).cell? ⟨w.heap.size, 1 + 1 + 1, none⟩ = some (.slice ka kids.length kc) := by simp [go_sem]
  have y4 : (w.alloc (Obj.cells #[.int .i64 K, .string s, .int .i64 N, .slice ka kids.length kc, .slice a l.length c] 121)).cell? ⟨w.heap.size, 1 + 1 + 1 + 1, none⟩ = some (.slice a l.length c) := by simp [go_sem]
  have hN := h.stays bA
  have hK := hk.stays bA
  have fh := field_head
  have fn := field_node
  go_enter Try.func82, Try.ntmps82
  go_wp2_with fail
  generalize w.alloc (Obj.cells #[.int .i64 K, .string s, .int .i64 N, .slice ka kids.length kc, .slice a l.length c] 121) = wA at *
  generalize hB : w.heap.size = B at *
  go_loopw [3, 10] (fun t3 t10 wr' => ∃ (j : Nat) (z : Int), t3 = .int .i64 z ∧ t10 = .int .i64 (j : Int) ∧ j ≤ kids.length ∧ Hid (z = wr (1 + cntS l d (kids.take j))) ∧ Below wA.heap.size wA wr') (fun _ t10 _ => kids.length - (intOf t10).toNat)
  case atStart => exact ⟨0, _, rfl, rfl, Nat.zero_le _, rfl, Below.refl _ _⟩
  case round =>
    rename World => wo
    obtain ⟨j, z, rfl, rfl, hj, hz, hb⟩ := hrel
    have bO := bA.trans (hb.mono (by have := bA.size; omega))
    have z0 := cell_stays hb y0
    have z1 := cell_stays hb y1
    have z2 := cell_stays hb y2
    have z3 := cell_stays hb y3
    have z4 := cell_stays hb y4
    by_cases hjl : j < kids.length
    · obtain ⟨x, hx, hxk, hxl, hxs⟩ := HK.out j hjl
      have hNo := hN.stays hb
      have hKo := hK.stays hb
      have j0 : (0 : Int) ≤ (j : Int) := by omega
      have j1 : (j : Int) < (kids.length : Int) := by omega
      have hrl := role_is hn hxl
      have hz2 : Hid (wr (z + wr (cntF l d x)) = wr (1 + cntS l d (kids.take (j + 1)))) := by
        show _ = _
        rw [cntS_take hjl, hz.out, hx, wr_add, wr_add', ← Int.add_assoc]
        rfl
      clear y0 y1 y2 y3 y4
      by_cases hx2 : (ndAt l x).k = 27
      · obtain ⟨y, hy⟩ : ∃ y, wr (cntF l d x) = y := ⟨_, rfl⟩
        have HS := fun ka kc w h1 h2 => hy ▸ HI.out x (by omega) hxl hx2 ka kc w h1 h2
        rw [hy] at hz2
        have hr3 : roleI (ndAt l x).k = 3 := by rw [hrl, hx2]; rfl
        change Hid _ at hx
        clear hz hy hxs hrl hx2
        go_wp2_with (first | (go_at_call 87; refine (kid_any a c l K s N ka kids.length kc j x kids _ hNo hKo rfl hjl hx.out hxl).mono ?_; rintro e w3 ⟨⟨qa, qc, rfl, Q⟩, hb3⟩; have u0 := cell_stays hb3 z0; have u1 := cell_stays hb3 z1; have u2 := cell_stays hb3 z2; have u3 := cell_stays hb3 z3; have u4 := cell_stays hb3 z4) | (go_at_call 86; refine (roleOf_any _ _).mono ?_; rw [hr3]; rintro e w4 ⟨rfl, rfl⟩) | (go_at_call 89; refine (block_any a c l K s N ka kids.length kc j x kids _ (hNo.stays hb3) (hKo.stays hb3) rfl hjl hx.out hxl).mono ?_; rintro e w5 ⟨⟨pa, pc, rfl, Q2⟩, hb5⟩) | (go_at_call 69; refine (HS pa pc _ ((hNo.stays hb3).stays hb5) ((Q2.ints (hNo.stays hb3) hxl).stays hb5)).mono ?_; rintro e w6 ⟨rfl, hb6⟩))
        have hb35 := (hb.trans (hb3.mono hb.size)).trans (hb5.mono (by have := hb.size; have := hb3.size; omega))
        go_roundw
        case rel => exact ⟨j + 1, _, rfl, by go_num, by omega, (wr_64 _).trans hz2.out, hb35.trans (hb6.mono hb35.size)⟩
        case measure => simp [intOf]; omega
      · have hs0 : sortI (ndAt l x).k = 0 := by
          rcases hxs with e | e
          · exact e
          · exact absurd (sort2.1 e) hx2
        have hz3 : Hid (z = wr (1 + cntS l d (kids.take (j + 1)))) := by
          have h1 := hz2.out
          rw [cntF_expr hn d x hxl hs0, show wr 0 = 0 from rfl, Int.add_zero] at h1
          rw [hz.out, wr_add_zero] at h1
          rw [← hz.out] at h1
          exact h1
        have hr3 : roleI (ndAt l x).k = 1 := by rw [hrl, hs0]; rfl
        change Hid _ at hx
        clear hz hz2 hxs hrl hx2 hs0
        go_wp2_with (first | (go_at_call 87; refine (kid_any a c l K s N ka kids.length kc j x kids _ hNo hKo rfl hjl hx.out hxl).mono ?_; rintro e w3 ⟨⟨qa, qc, rfl, Q⟩, hb3⟩) | (go_at_call 86; refine (roleOf_any _ _).mono ?_; rw [hr3]; rintro e w4 ⟨rfl, rfl⟩))
        go_roundw
        case rel => exact ⟨j + 1, _, rfl, by go_num, by omega, hz3, hb.trans (hb3.mono hb.size)⟩
        case measure => simp [intOf]; omega
    · have hjl' : ¬ (j : Int) < (kids.length : Int) := by omega
      have e : z = TOP := by
        have h1 := hz.out
        rw [show j = kids.length by omega, kids_take_all] at h1
        exact h1.trans hTOP.out
      subst e
      clear hz hTOP
      go_wp2
      go_ret
      exact ⟨rfl, by first | exact bO | (rw [hB]; exact bO)⟩

theorem stm_all {a : Option Addr} {c : Nat} {l : List Nd} {lo hi : Nat} (hn : NodesOk l) : ∀ d, BStmAt a c l lo hi d ∧ SStmAt a c l lo hi d
  | 0 => ⟨fun k hk => absurd hk (Nat.not_lt_zero _), fun k hk => absurd hk (Nat.not_lt_zero _)⟩
  | d + 1 => ⟨bstm_step hn (stm_all hn d).2, sstm_step hn (stm_all hn d).1⟩

end Go.Proofs.Ytjikmpdgednlaaa
