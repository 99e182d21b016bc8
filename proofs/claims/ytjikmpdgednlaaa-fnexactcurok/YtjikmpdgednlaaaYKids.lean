/- The program's hasKids and kidsOk. -/
import Derived.Test.YtjikmpdgednlaaaYHead
import Derived.Test.YtjikmpdgednlaaaYRep
namespace Go.Proofs.Ytjikmpdgednlaaa
open Go.ChangeShapes Go.WideShapes Go.ChangeAt Go.RowKit
set_option linter.unusedVariables false
set_option maxRecDepth 100000
attribute [local go_sem ↓] Go.wp_at_zero Go.wp_at_succ

/-- Of which role kid j is. -/
def roleK (l : List Nd) (kids : List Int) (j : Nat) : Int := roleI (ndAt l (iAt kids j).toNat).k
/-- As many kids as there are roles, each of its role. -/
def hasF (l : List Nd) (kids : List Int) (R : List Int) : Bool := decide (kids.length = R.length) && (List.range R.length).all fun j => decide (roleK l kids j = iAt R j)
theorem hasF_len {l : List Nd} {kids R : List Int} (h : ¬ kids.length = R.length) : hasF l kids R = false := by rw [hasF, decide_eq_false h, Bool.false_and]
theorem hasF_bad {l : List Nd} {kids R : List Int} {j : Nat} (hj : j < R.length) (h : ¬ roleK l kids j = iAt R j) : hasF l kids R = false := by
  have : ((List.range R.length).all fun j => decide (roleK l kids j = iAt R j)) = false := by
    rw [Bool.eq_false_iff]
    intro hh
    rw [List.all_eq_true] at hh
    exact h (of_decide_eq_true (hh j (List.mem_range.2 hj)))
  rw [hasF, this, Bool.and_false]
theorem hasF_good {l : List Nd} {kids R : List Int} (hl : kids.length = R.length) (h : ∀ j, j < R.length → roleK l kids j = iAt R j) : hasF l kids R = true := by
  rw [hasF, decide_eq_true hl, Bool.true_and, List.all_eq_true]
  intro j hj
  exact decide_eq_true (h j (List.mem_range.1 hj))

theorem field_head (K : Int) (s : ByteArray) (n : Int) (a : Option Addr) (m c : Nat) (b : Option Addr) (m' c' : Nat) (w : World) : (Instr.field 100 (.agg #[.int .i64 K, .string s, .int .i64 n, .slice a m c, .slice b m' c']) 0).run Try.prog w = .ok (.agg #[.int .i64 K, .string s, .int .i64 n, .slice a m c]) w := by kernel_rfl
theorem field_node (K : Int) (s : ByteArray) (n : Int) (a : Option Addr) (m c : Nat) (w : World) : (Instr.field 72 (.agg #[.int .i64 K, .string s, .int .i64 n, .slice a m c]) 0).run Try.prog w = .ok (.int .i64 K) w := by kernel_rfl

set_option maxHeartbeats 4000000 in
theorem hasKids_any (a : Option Addr) (c : Nat) (l : List Nd) (k : Int) (s : ByteArray) (n : Int) (ka : Option Addr) (m kc : Nat) (kids : List Int) (ra : Option Addr) (rc : Nat) (R : List Int) (rn : Nat) (w : World) {lo hi lo2 hi2 : Nat} (h : NodesAt lo hi w (.slice a l.length c) l) (hk : IntsAt lo hi w (.slice ka m kc) kids) (hm : m = kids.length) (hR : IntsAt lo2 hi2 w (.slice ra rn rc) R) (hrn : rn = R.length)
    (hin : ∀ j, j < kids.length → 0 ≤ iAt kids j ∧ iAt kids j < (l.length : Int)) :
    Calls Try.prog 78 #[.agg #[.int .i64 k, .string s, .int .i64 n, .slice ka m kc, .slice a l.length c], .slice ra rn rc] w fun e w' => e = .returned (.bool (hasF l kids R)) ∧ Below w.heap.size w w' := by
  have bA : Below w.heap.size w (w.alloc (Obj.cells #[.int .i64 k, .string s, .int .i64 n, .slice ka m kc, .slice a l.length c] 100)) := (Below.refl _ _).alloc (Nat.le_refl _) _
  have y0 : (w.alloc (Obj.cells #[.int .i64 k, .string s, .int .i64 n, .slice ka m kc, .slice a l.length c] 100)).cell? ⟨w.heap.size, 0, none⟩ = some (.int .i64 k) := by simp [go_sem]
  have y1 : (w.alloc (Obj.cells #[.int .i64 k, .string s, .int .i64 n, .slice ka m kc, .slice a l.length c] 100)).cell? ⟨w.heap.size, 1, none⟩ = some (.string s) := by simp [go_sem]
  have y2 : (w.alloc (Obj.cells #[.int .i64 k, .string s, .int .i64 n, .slice ka m kc, .slice a l.length c] 100)).cell? ⟨w.heap.size, 1 + 1, none⟩ = some (.int .i64 n) := by simp [go_sem]
  have y3 : (w.alloc (Obj.cells #[.int .i64 k, .string s, .int .i64 n, .slice ka m kc, .slice a l.length c] 100)).cell? ⟨w.heap.size, 1 + 1 + 1, none⟩ = some (.slice ka m kc) := by simp [go_sem]
  have y4 : (w.alloc (Obj.cells #[.int .i64 k, .string s, .int .i64 n, .slice ka m kc, .slice a l.length c] 100)).cell? ⟨w.heap.size, 1 + 1 + 1 + 1, none⟩ = some (.slice a l.length c) := by simp [go_sem]
  have hN := h.stays bA
  have hK := hk.stays bA
  have hRA := hR.stays bA
  obtain ⟨TOP, hTOP⟩ : ∃ r, hasF l kids R = r := ⟨_, rfl⟩
  rw [hTOP]
  change Hid _ at hTOP
  have hkm : m ≤ maxLen := by obtain ⟨_, _, e1, hkm, _⟩ := id hk; cases e1; omega
  unfold maxLen at hkm
  have hrm : rn ≤ maxLen := by obtain ⟨_, _, e1, hkm, _⟩ := id hR; cases e1; omega
  unfold maxLen at hrm
  by_cases hl : m = rn
  · subst hl
    have hrc : ∀ {j}, j < m → ∃ b off, ra = some ⟨b, off, none⟩ ∧ (w.alloc (Obj.cells #[.int .i64 k, .string s, .int .i64 n, .slice ka m kc, .slice a l.length c] 100)).cell? ⟨b, off + j, none⟩ = some (.int .i64 (iAt R j)) := fun {j} hj => by
      obtain ⟨_, _, e2, _, hrc⟩ := id hRA
      cases e2
      obtain ⟨b, off, e, _, _, hc⟩ := hrc (by omega)
      exact ⟨b, off, e, hc j (by omega)⟩
    change Hid _ at hm hrn
    go_enter Try.func78, Try.ntmps78
    go_wp2_with fail
    generalize w.alloc (Obj.cells #[.int .i64 k, .string s, .int .i64 n, .slice ka m kc, .slice a l.length c] 100) = wA at *
    generalize hB : w.heap.size = B at *
    go_loopw [16] (fun t16 wr => ∃ j : Nat, t16 = .int .i64 (j : Int) ∧ j ≤ m ∧ Below wA.heap.size wA wr ∧ Hid (∀ x, x < j → roleK l kids x = iAt R x)) (fun t16 _ => m - (intOf t16).toNat)
    case atStart => exact ⟨0, rfl, Nat.zero_le _, Below.refl _ _, fun x hx => absurd hx (Nat.not_lt_zero _)⟩
    case round =>
      rename World => wo
      obtain ⟨j, rfl, hj, hb, hall⟩ := hrel
      have bW := bA.trans (hb.mono (by have := bA.size; omega))
      by_cases hlt : j < m
      · obtain ⟨rb, roff, rfl, hcR⟩ := hrc hlt
        have r0 := cell_stays hb hcR
        have z0 := cell_stays hb y0
        have z1 := cell_stays hb y1
        have z2 := cell_stays hb y2
        have z3 := cell_stays hb y3
        have z4 := cell_stays hb y4
        have hj0 : (0 : Int) ≤ (j : Int) := by omega
        have hj1 : (j : Int) < (m : Int) := by omega
        obtain ⟨i0, i1⟩ := hin j (by have := hm.out; omega)
        obtain ⟨xn, hx⟩ := Int.eq_ofNat_of_zero_le i0
        have hrk : roleK l kids j = roleI (ndAt l xn).k := by rw [roleK, hx]; rfl
        have next : roleK l kids j = iAt R j → Hid (∀ x, x < j + 1 → roleK l kids x = iAt R x) := fun he x hx => by
          by_cases e : x = j
          · subst e; exact he
          · exact hall.out x (by omega)
        have bad : ¬ roleK l kids j = iAt R j → TOP = false := fun hne => hTOP.out.symm.trans (hasF_bad (by have := hrn.out; omega) hne)
        rw [hrk] at next bad
        clear hrk hall hcR hrc y0 y1 y2 y3 y4
        generalize iAt R j = RV at *
        have fh := field_head
        have fn := field_node
        change Hid _ at next
        change Hid _ at bad
        have hNo := hN.stays hb
        have hKo := hK.stays hb
        go_wp2_with (first | (go_at_call 87; refine (kid_any a c l k s n ka m kc j xn kids _ hNo hKo hm.out (by have := hm.out; omega) hx (by omega)).mono ?_; rintro e w2 ⟨⟨qa, qc, rfl, Q⟩, hb2⟩) | (go_at_call 86; refine (roleOf_any _ _).mono ?_; rintro e w3 ⟨rfl, rfl⟩))
        · rename_i hne
          have e := bad.out (by simpa using hne)
          subst e
          go_ret
          exact ⟨rfl, by rw [hB]; exact bW.trans (hb2.mono (by have := bW.size; omega))⟩
        · rename_i hne
          have nx := next.out (by simpa using hne)
          go_roundw
          case rel => exact ⟨j + 1, by go_num, by omega, hb.trans (hb2.mono hb.size), nx⟩
          case measure => simp [intOf]; omega
      · have hlt' : ¬ (j : Int) < (m : Int) := by omega
        have e : TOP = true := hTOP.out.symm.trans (hasF_good (hm.out.symm.trans hrn.out) fun x hx => hall.out x (by have := hrn.out; omega))
        subst e
        clear hall hTOP
        go_wp2
        go_ret
        exact ⟨rfl, by first | exact bW | (rw [hB]; exact bW)⟩
  · have e := hTOP.out.symm.trans (hasF_len (by omega))
    subst e
    have hl' : ¬ (m : Int) = (rn : Int) := by omega
    clear hTOP
    change Hid _ at hm hrn
    go_enter Try.func78, Try.ntmps78
    go_wp2
    go_ret
    exact ⟨rfl, bA⟩

end Go.Proofs.Ytjikmpdgednlaaa
