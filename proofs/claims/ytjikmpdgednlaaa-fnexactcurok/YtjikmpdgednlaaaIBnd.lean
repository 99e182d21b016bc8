/- The program's bounds of steps. -/
import Derived.Test.YtjikmpdgednlaaaZStp
import Derived.Test.YtjikmpdgednlaaaIStm
namespace Go.Proofs.Ytjikmpdgednlaaa
open Go.ChangeShapes Go.WideShapes Go.ChangeAt Go.RowKit
set_option linter.unusedVariables false
set_option maxRecDepth 100000
attribute [local go_sem ↓] Go.wp_at_zero Go.wp_at_succ

def rbI (N r : Int) : Int := if 1000000 / N < r then 1000000 else 2 + N * r
theorem rbI_cap {N r : Int} (h1 : 1 ≤ N) (h4 : N ≤ 4) (hr : 0 ≤ r) : capI (rbI N r) = capI (2 + N * r) ∧ 0 ≤ rbI N r ∧ rbI N r ≤ 1000002 := by
  have : N = 1 ∨ N = 2 ∨ N = 3 ∨ N = 4 := by omega
  unfold capI rbI
  rcases this with rfl | rfl | rfl | rfl <;> (split <;> split <;> (try split) <;> omega)

set_option maxHeartbeats 4000000 in
theorem roundsBound_any (N r : Int) (w : World) (h1 : 1 ≤ N) (h4 : N ≤ 4) (hr : 0 ≤ r) (hr2 : r ≤ 1000001) :
    Calls Try.prog 94 #[.int .i64 N, .int .i64 r] w fun e w' => e = .returned (.int .i64 (rbI N r)) ∧ w' = w := by
  have hN : N = 1 ∨ N = 2 ∨ N = 3 ∨ N = 4 := by omega
  by_cases n1 : N = 1
  · subst n1
    by_cases hq : 1000000 < r
    · have e : rbI 1 r = 1000000 := by unfold rbI; rw [if_pos (by omega)]
      rw [e]
      go_enter Try.func94, Try.ntmps94
      go_wp2
      go_ret
      exact ⟨rfl, rfl⟩
    · have e : rbI 1 r = 2 + 1 * r := by unfold rbI; rw [if_neg (by omega)]
      rw [e]
      go_enter Try.func94, Try.ntmps94
      go_wp2
      go_ret
      exact ⟨by simp, rfl⟩
  by_cases n2 : N = 2
  · subst n2
    by_cases hq : 500000 < r
    · have e : rbI 2 r = 1000000 := by unfold rbI; rw [if_pos (by omega)]
      rw [e]
      go_enter Try.func94, Try.ntmps94
      go_wp2
      go_ret
      exact ⟨rfl, rfl⟩
    · have e : rbI 2 r = 2 + 2 * r := by unfold rbI; rw [if_neg (by omega)]
      rw [e]
      go_enter Try.func94, Try.ntmps94
      go_wp2
      go_ret
      exact ⟨rfl, rfl⟩
  by_cases n3 : N = 3
  · subst n3
    by_cases hq : 333333 < r
    · have e : rbI 3 r = 1000000 := by unfold rbI; rw [if_pos (by omega)]
      rw [e]
      go_enter Try.func94, Try.ntmps94
      go_wp2
      go_ret
      exact ⟨rfl, rfl⟩
    · have e : rbI 3 r = 2 + 3 * r := by unfold rbI; rw [if_neg (by omega)]
      rw [e]
      go_enter Try.func94, Try.ntmps94
      go_wp2
      go_ret
      exact ⟨rfl, rfl⟩
  by_cases n4 : N = 4
  · subst n4
    by_cases hq : 250000 < r
    · have e : rbI 4 r = 1000000 := by unfold rbI; rw [if_pos (by omega)]
      rw [e]
      go_enter Try.func94, Try.ntmps94
      go_wp2
      go_ret
      exact ⟨rfl, rfl⟩
    · have e : rbI 4 r = 2 + 4 * r := by unfold rbI; rw [if_neg (by omega)]
      rw [e]
      go_enter Try.func94, Try.ntmps94
      go_wp2
      go_ret
      exact ⟨rfl, rfl⟩
  omega

/-- The bounds of blocks ahead of d. -/
def BBndAt (a : Option Addr) (c : Nat) (l : List Nd) (lo hi d : Nat) : Prop := ∀ k, k < d → k < l.length → (ndAt l k).k = 27 → ∀ ka kc w, NodesAt lo hi w (.slice a l.length c) l → IntsAt lo hi w (.slice ka (ndAt l k).kids.length kc) (ndAt l k).kids →
  Calls Try.prog 83 #[.agg #[.int .i64 (ndAt l k).k, .string (ndAt l k).s, .int .i64 (ndAt l k).n, .slice ka (ndAt l k).kids.length kc, .slice a l.length c]] w fun e w' => e = .returned (.int .i64 (stpF l d k)) ∧ Below w.heap.size w w'
/-- The bounds of statements ahead of d. -/
def SBndAt (a : Option Addr) (c : Nat) (l : List Nd) (lo hi d : Nat) : Prop := ∀ k, k < d → k < l.length → sortI (ndAt l k).k = 1 → ∃ z, capI z = stpF l d k ∧ 0 ≤ z ∧ z ≤ 1000002 ∧ ∀ ka kc w, NodesAt lo hi w (.slice a l.length c) l → IntsAt lo hi w (.slice ka (ndAt l k).kids.length kc) (ndAt l k).kids →
  Calls Try.prog 90 #[.agg #[.int .i64 (ndAt l k).k, .string (ndAt l k).s, .int .i64 (ndAt l k).n, .slice ka (ndAt l k).kids.length kc, .slice a l.length c]] w fun e w' => e = .returned (.int .i64 z) ∧ Below w.heap.size w w'

set_option maxHeartbeats 8000000 in
theorem bbnd_step {a : Option Addr} {c : Nat} {l : List Nd} {lo hi d : Nat} (hn : NodesOk l) (ht : TimesOk l) (IH : SBndAt a c l lo hi d) : BBndAt a c l lo hi (d + 1) := by
  intro k hkd hkl hk27 ka kc w h hk
  have HK : Hid (∀ j, j < (ndAt l k).kids.length → ∃ x : Nat, iAt (ndAt l k).kids j = (x : Int) ∧ x < k ∧ x < l.length ∧ sortI (ndAt l x).k = 1) := fun j hj => by
    obtain ⟨x, h1, h2, h3, h4⟩ := hn.kid hkl hj
    rw [hk27] at h4
    exact ⟨x, h1, h2, h3, h4⟩
  have hkn : (ndAt l k).kids.length ≤ 4000 := by
    have h1 := (hn k hkl).hi
    rw [hk27] at h1
    have h2 : ((ndAt l k).kids.length : Int) ≤ 4000 := h1
    omega
  rw [stpF_block hk27]
  obtain ⟨⟨K, s, N, kids⟩, hnd⟩ : ∃ x, ndAt l k = x := ⟨_, rfl⟩
  simp only [hnd] at hk HK hk27 hkn ⊢
  clear hnd
  subst hk27
  obtain ⟨TOP, hTOP⟩ : ∃ r, capI (stpS l d kids) = r := ⟨_, rfl⟩
  rw [hTOP]
  change Hid _ at hTOP
  have HI : Hid (SBndAt a c l lo hi d) := IH
  have bA : Below w.heap.size w (w.alloc (Obj.cells #[.int .i64 27, .string s, .int .i64 N, .slice ka kids.length kc, .slice a l.length c] 106)) := (Below.refl _ _).alloc (Nat.le_refl _) _
  have y0 : (w.alloc (Obj.cells #[.int .i64 27, .string s, .int .i64 N, .slice ka kids.length kc, .slice a l.length c] 106)).cell? ⟨w.heap.size, 0, none⟩ = some (.int .i64 27) := by simp [go_sem]
  have y1 : (w.alloc (Obj.cells #[.int .i64 27, .string s, .int .i64 N, .slice ka kids.length kc, .slice a l.length c] 106)).cell? ⟨w.heap.size, 1, none⟩ = some (.string s) := by simp [go_sem]
  have y2 : (w.alloc (Obj.cells #[.int .i64 27, .string s, .int .i64 N, .slice ka kids.length kc, .slice a l.length c] 106)).cell? ⟨w.heap.size, 1 + 1, none⟩ = some (.int .i64 N) := by simp [go_sem]
  have y3 : (w.alloc (Obj.cells #[.int .i64 27, .string s, .int .i64 N, .slice ka kids.length kc, .slice a l.length c] 106)).cell? ⟨w.heap.size, 1 + 1 + 1, none⟩ = some (.slice ka kids.length kc) := by simp [go_sem]
  have y4 : (w.alloc (Obj.cells #[.int .i64 27, .string s, .int .i64 N, .slice ka kids.length kc, .slice a l.length c] 106)).cell? ⟨w.heap.size, 1 + 1 + 1 + 1, none⟩ = some (.slice a l.length c) := by simp [go_sem]
  have hN := h.stays bA
  have hK := hk.stays bA
  go_enter Try.func83, Try.ntmps83
  go_wp2_with fail
  generalize w.alloc (Obj.cells #[.int .i64 27, .string s, .int .i64 N, .slice ka kids.length kc, .slice a l.length c] 106) = wA at *
  generalize hB : w.heap.size = B at *
  go_loopw [3, 10] (fun t3 t10 wr' => ∃ (j : Nat) (z : Int), t3 = .int .i64 z ∧ t10 = .int .i64 (j : Int) ∧ j ≤ kids.length ∧ Hid (capI z = capI (stpS l d (kids.take j))) ∧ (0 ≤ z ∧ z ≤ 1000002 * (j : Int)) ∧ Below wA.heap.size wA wr') (fun _ t10 _ => kids.length - (intOf t10).toNat)
  case atStart => exact ⟨0, _, rfl, rfl, Nat.zero_le _, rfl, ⟨by decide, by decide⟩, Below.refl _ _⟩
  case round =>
    rename World => wo
    obtain ⟨j, z, rfl, rfl, hj, hz, ⟨zl, zh⟩, hb⟩ := hrel
    have bO := bA.trans (hb.mono (by have := bA.size; omega))
    have z0 := cell_stays hb y0
    have z1 := cell_stays hb y1
    have z2 := cell_stays hb y2
    have z3 := cell_stays hb y3
    have z4 := cell_stays hb y4
    by_cases hjl : j < kids.length
    · obtain ⟨x, hx, hxk, hxl, hxs⟩ := HK.out j hjl
      have hNo := hN.stays hb
      have hKo := hK.stays hb
      have j0 : (0 : Int) ≤ (j : Int) := by omega
      have j1 : (j : Int) < (kids.length : Int) := by omega
      obtain ⟨y, hy, yl, yh, HS⟩ := HI.out x (by omega) hxl hxs
      have hnn := stpS_take (l := l) (d := d) hjl
      have hz2 : Hid (capI (z + y) = capI (stpS l d (kids.take (j + 1)))) := by
        show _ = _
        have e : (iAt kids j).toNat = x := by rw [hx]; rfl
        rw [hnn, e, ← hy, ← capI_add (a := z) yl, hz.out, capI_add yl, Int.add_comm, ← capI_add' (a := y) (stpS_tk hn ht hkl HK.out j hjl d), Int.add_comm]
      change Hid _ at hx
      clear y0 y1 y2 y3 y4 hz hy hxs hnn
      go_wp2_with (first | (go_at_call 81; refine (statement_any a c l 27 s N ka kids.length kc j x kids _ hNo hKo rfl hjl hx.out hxl).mono ?_; rintro e w3 ⟨⟨qa, qc, rfl, Q⟩, hb3⟩) | (go_at_call 90; refine (HS qa qc _ (hNo.stays hb3) ((Q.ints hNo hxl).stays hb3)).mono ?_; rintro e w4 ⟨rfl, hb4⟩))
      go_roundw
      case rel => exact ⟨j + 1, _, rfl, by go_num, by omega, hz2, ⟨by omega, by omega⟩, (hb.trans (hb3.mono hb.size)).trans (hb4.mono (by have := hb.size; have := hb3.size; omega))⟩
      case measure => simp [intOf]; omega
    · have hjl' : ¬ (j : Int) < (kids.length : Int) := by omega
      have e : capI z = TOP := by
        have h1 := hz.out
        rw [show j = kids.length by omega, kids_take_all] at h1
        exact h1.trans hTOP.out
      clear hz hTOP
      by_cases hzz : 1000000 < z
      · have e2 : TOP = 1000000 := by rw [← e]; unfold capI; rw [if_pos hzz]
        subst e2
        clear e
        go_wp2
        go_ret
        exact ⟨rfl, by first | exact bO | (rw [hB]; exact bO)⟩
      · have e2 : TOP = z := by rw [← e]; unfold capI; rw [if_neg hzz]
        subst e2
        clear e
        go_wp2
        go_ret
        exact ⟨rfl, by first | exact bO | (rw [hB]; exact bO)⟩

end Go.Proofs.Ytjikmpdgednlaaa
