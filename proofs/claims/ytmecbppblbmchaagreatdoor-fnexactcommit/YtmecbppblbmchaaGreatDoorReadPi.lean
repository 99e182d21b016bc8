import Derived.Test.YtmecbppblbmchaaGreatDoorMRoom
import Derived.Test.YtmecbppblbmchaaGreatDoorOk
import Derived.Test.YtmecbppblbmchaaGreatDoorMData
import Derived.Test.YtmecbppblbmchaaGreatDoorRead
import Derived.Test.YtmecbppblbmchaaGreatDoorMOk
/- The program's stepping: the transaction that is to read or to write a key. -/
namespace Go.Proofs.YtmecbppblbmchaaGreatDoor
open Go.ChangeShapes Go.WideShapes Go.ChangeAt Go.RowKit Go.Sort
set_option linter.unusedVariables false
set_option maxRecDepth 100000
attribute [local go_sem ↓] Go.wp_at_zero Go.wp_at_succ

/-- What stepping answers. -/
def StAns (m : Md) (tx t : Int) (a : Option Addr) (e : Ending) : Prop :=
  (mgrOk m ∧ tabB t = true ∧ m.h.length ≤ 2998 ∧ ∃ i bt off, IsTx m tx i ∧ a = some ⟨bt, off, none⟩ ∧ e = .returned (.tuple #[.pointer (some ⟨bt, off + i * 3, none⟩), .nilIface])) ∨
  ((¬ mgrOk m ∨ NoTx m tx ∨ ¬ tabB t = true) ∧ e = .returned (.tuple #[.pointer none, refE 1])) ∨
  (mgrOk m ∧ (∃ i, IsTx m tx i) ∧ tabB t = true ∧ ¬ m.h.length ≤ 2998 ∧ e = .returned (.tuple #[.pointer none, refE 2]))

set_option maxHeartbeats 2000000 in
theorem stepping_any (b : Nat) (vs : Value) (a : Option Addr) (cap : Nat) (ve : Value) (m : Md) (tx t r : Int) (w : World) {lo hi : Nat} (hbox : MBox w b vs m.c m.n (.slice a m.x.length cap) ve) (h : MAt lo hi w vs (.slice a m.x.length cap) ve m) (hn : m.h.length ≤ 1048580) :
    Calls Tryz.prog 81 #[.pointer (some ⟨b, 0, none⟩), .int .i64 tx, .agg #[.int .i64 t, .int .i64 r]] w fun e w' => StAns m tx t a e ∧ Below w.heap.size w w' := by
  obtain ⟨a1, cap1, hv1⟩ : ∃ a cap, vs = .slice a m.s.length cap := by obtain ⟨a, cap, h1, _⟩ := h.s; exact ⟨a, cap, h1⟩
  obtain ⟨a3, cap3, hv3⟩ : ∃ a cap, ve = .slice a m.h.length cap := by obtain ⟨a, cap, h1, _⟩ := h.h; exact ⟨a, cap, h1⟩
  subst hv1 hv3
  have b0 : Below w.heap.size w (w.alloc (Obj.cells #[Value.int IntKind.i64 t, Value.int IntKind.i64 r] 46)) := (Below.refl _ _).alloc (Nat.le_refl _) _
  have x0 : (w.alloc (Obj.cells #[Value.int IntKind.i64 t, Value.int IntKind.i64 r] 46)).cell? ⟨w.heap.size, 0, none⟩ = some (.int .i64 t) := by simp [go_sem]
  have h0 := h.stays b0
  have hb0 := hbox.stays b0
  go_enter Tryz.func81, Tryz.ntmps81
  go_wp2_with fail
  generalize w.alloc (Obj.cells #[Value.int IntKind.i64 t, Value.int IntKind.i64 r] 46) = W at *
  refine (underWay_any b _ a cap _ m tx _ hb0 h0).mono ?_
  rintro e w1 ⟨hU, hb1⟩
  have b1 := b0.trans (hb1.mono b0.size)
  have y0 := cell_stays hb1 x0
  have hb1' := hb0.stays hb1
  clear x0 hb1 h0 hb0 b0
  rcases hU with ⟨hok, i, bt, off, hi, rfl, rfl⟩ | ⟨hno, rfl⟩
  · have HO : Hid (mgrOk m) := hok
    have HI : Hid (IsTx m tx i) := hi
    clear hok hi
    by_cases ht : tabB t = true
    · have HT : Hid (tabB t = true) := ht
      go_wp2_with fail
      refine (isTable_any _ _).mono ?_
      rw [ht]
      rintro e w2 ⟨rfl, rfl⟩
      clear ht
      obtain ⟨z0, z1, z2, z3, z4⟩ := hb1'
      go_wp2_with fail
      refine (hasRoom_any _ _ _ _ _ _ _ _ _ _ _ _ hn).mono ?_
      rintro e w3 ⟨rfl, hb3⟩
      have b3 := b1.trans (hb3.mono b1.size)
      by_cases eh : m.h.length ≤ 2998
      · rw [decide_eq_true eh]
        have HH : Hid (m.h.length ≤ 2998) := eh
        clear eh
        go_wp2
        go_ret2
        exact ⟨.inl ⟨HO.out, HT.out, HH.out, i, bt, off, HI.out, rfl, rfl⟩, b3⟩
      · rw [decide_eq_false eh]
        have HH : Hid (¬ m.h.length ≤ 2998) := eh
        clear eh
        go_wp2
        go_ret2
        exact ⟨.inr (.inr ⟨HO.out, ⟨i, HI.out⟩, HT.out, HH.out, rfl⟩), b3⟩
    · have HT : Hid (¬ tabB t = true) := ht
      have ht' : tabB t = false := by simpa using ht
      clear ht
      go_wp2_with fail
      refine (isTable_any _ _).mono ?_
      rw [ht']
      rintro e w2 ⟨rfl, rfl⟩
      clear ht'
      go_wp2
      go_ret2
      exact ⟨.inr (.inl ⟨.inr (.inr HT.out), rfl⟩), b1⟩
  · have HN : Hid (¬ mgrOk m ∨ NoTx m tx) := hno
    clear hno
    go_wp2
    go_ret2
    exact ⟨.inr (.inl ⟨by rcases HN.out with h | h; exact .inl h; exact .inr (.inl h), rfl⟩), b1⟩
end Go.Proofs.YtmecbppblbmchaaGreatDoor

/- Where a key stands in rows: the program's findRow. -/
namespace Go.Proofs.YtmecbppblbmchaaGreatDoor
open Go.ChangeShapes Go.WideShapes Go.ChangeAt Go.RowKit Go.Sort
set_option linter.unusedVariables false
set_option maxRecDepth 100000
attribute [local go_sem ↓] Go.wp_at_zero Go.wp_at_succ

/-- What compareKeys says. -/
def ckI (a b c d : Int) : Int := if klB a b c d = true then -1 else if klB c d a b = true then 1 else 0
theorem ckI_neg {a b c d : Int} : ckI a b c d < 0 ↔ klB a b c d = true := by
  unfold ckI
  by_cases h1 : klB a b c d = true
  · simp [h1]
  · by_cases h2 : klB c d a b = true <;> simp [h1, h2]
theorem ckI_zero {a b c d : Int} : ckI a b c d = 0 ↔ (a = c ∧ b = d) := by
  unfold ckI
  by_cases h1 : klB a b c d = true
  · simp [h1]; rw [klB_iff] at h1; omega
  · by_cases h2 : klB c d a b = true
    · simp [h1, h2]; rw [klB_iff] at h2; omega
    · simp [h1, h2]; rw [klB_iff] at h1 h2; omega

theorem compareKeys_any (a b c d : Int) (w : World) :
    Calls Tryz.prog 123 #[.agg #[.int .i64 a, .int .i64 b], .agg #[.int .i64 c, .int .i64 d]] w fun e w' => e = .returned (.int .i64 (ckI a b c d)) ∧ Below w.heap.size w w' := by
  obtain ⟨k1, hk1⟩ : ∃ k1, klB a b c d = k1 := ⟨_, rfl⟩
  obtain ⟨k2, hk2⟩ : ∃ k2, klB c d a b = k2 := ⟨_, rfl⟩
  have hcf : ckI a b c d = if k1 = true then -1 else if k2 = true then 1 else 0 := by simp only [ckI, hk1, hk2]
  rw [hcf]
  clear hcf
  have b0 : Below w.heap.size w ((w.alloc (Obj.cells #[Value.int IntKind.i64 a, Value.int IntKind.i64 b] 46)).alloc (Obj.cells #[Value.int IntKind.i64 c, Value.int IntKind.i64 d] 46)) := ((Below.refl _ _).alloc (Nat.le_refl _) _).alloc (by simp) _
  have x0 : ((w.alloc (Obj.cells #[Value.int IntKind.i64 a, Value.int IntKind.i64 b] 46)).alloc (Obj.cells #[Value.int IntKind.i64 c, Value.int IntKind.i64 d] 46)).cell? ⟨w.heap.size, 0, none⟩ = some (.int .i64 a) := by simp [go_sem]
  have x1 : ((w.alloc (Obj.cells #[Value.int IntKind.i64 a, Value.int IntKind.i64 b] 46)).alloc (Obj.cells #[Value.int IntKind.i64 c, Value.int IntKind.i64 d] 46)).cell? ⟨w.heap.size, 1, none⟩ = some (.int .i64 b) := by simp [go_sem]
  have x2 : ((w.alloc (Obj.cells #[Value.int IntKind.i64 a, Value.int IntKind.i64 b] 46)).alloc (Obj.cells #[Value.int IntKind.i64 c, Value.int IntKind.i64 d] 46)).cell? ⟨w.heap.size + 1, 0, none⟩ = some (.int .i64 c) := by simp [go_sem]
  have x3 : ((w.alloc (Obj.cells #[Value.int IntKind.i64 a, Value.int IntKind.i64 b] 46)).alloc (Obj.cells #[Value.int IntKind.i64 c, Value.int IntKind.i64 d] 46)).cell? ⟨w.heap.size + 1, 1, none⟩ = some (.int .i64 d) := by simp [go_sem]
  go_enter Tryz.func123, Tryz.ntmps123
  go_wp2_with fail
  generalize (w.alloc (Obj.cells #[Value.int IntKind.i64 a, Value.int IntKind.i64 b] 46)).alloc (Obj.cells #[Value.int IntKind.i64 c, Value.int IntKind.i64 d] 46) = W at *
  refine (implKeyLess_any _ _ _ _ _).mono ?_
  rw [hk1]
  rintro e w1 ⟨rfl, hb1⟩
  have y0 := cell_stays hb1 x0
  have y1 := cell_stays hb1 x1
  have y2 := cell_stays hb1 x2
  have y3 := cell_stays hb1 x3
  have b1 := b0.trans (hb1.mono b0.size)
  clear x0 x1 x2 x3 hb1 b0
  cases k1
  · go_wp2_with fail
    refine (implKeyLess_any _ _ _ _ _).mono ?_
    rw [hk2]
    rintro e w2 ⟨rfl, hb2⟩
    have b2 := b1.trans (hb2.mono b1.size)
    cases k2
    · go_wp2
      go_ret
      exact ⟨rfl, b2⟩
    · go_wp2
      go_ret
      exact ⟨rfl, b2⟩
  · go_wp2
    go_ret
    exact ⟨rfl, b1⟩

theorem findCmp_any (x : Rw) (c d : Int) (w : World) :
    Calls Tryz.prog 122 #[.agg #[.int .i64 x.t, .int .i64 x.r, .int .i64 x.v], .agg #[.int .i64 c, .int .i64 d]] w fun e w' => e = .returned (.int .i64 (ckI x.t x.r c d)) ∧ Below w.heap.size w w' := by
  have b0 : Below w.heap.size w ((w.alloc (Obj.cells #[.int .i64 x.t, .int .i64 x.r, .int .i64 x.v] 111)).alloc (Obj.cells #[Value.int IntKind.i64 c, Value.int IntKind.i64 d] 46)) := ((Below.refl _ _).alloc (Nat.le_refl _) _).alloc (by simp) _
  go_enter Tryz.func122, Tryz.ntmps122
  go_wp2_with fail
  refine (compareKeys_any _ _ _ _ _).mono ?_
  rintro e w1 ⟨rfl, hb1⟩
  go_wp2
  go_ret
  exact ⟨rfl, b0.trans (hb1.mono b0.size)⟩

/-- Each key is ahead of the next ones. -/
def RowsUp (l : List Rw) : Prop := ∀ i j, i < j → j < l.length → klB (rAt l i).t (rAt l i).r (rAt l j).t (rAt l j).r = true
/-- So many keys are ahead of (t, r). -/
def LowK (l : List Rw) (t r : Int) (i : Nat) : Prop := i ≤ l.length ∧ (∀ j, j < i → klB (rAt l j).t (rAt l j).r t r = true) ∧ ∀ j, i ≤ j → j < l.length → klB (rAt l j).t (rAt l j).r t r = false
/-- Row i is of the key (t, r). -/
def AtK (l : List Rw) (t r : Int) (i : Nat) : Prop := i < l.length ∧ (rAt l i).t = t ∧ (rAt l i).r = r
instance (l : List Rw) (t r : Int) (i : Nat) : Decidable (AtK l t r i) := by unfold AtK; infer_instance

set_option maxHeartbeats 4000000 in
theorem search_any (v : Value) (l : List Rw) (t r : Int) (w : World) {lo hi : Nat} (h : RowsAt lo hi w v l) (hu : RowsUp l) (hn : l.length ≤ 1048580) :
    Calls Tryz.prog 121 #[v, .agg #[.int .i64 t, .int .i64 r], .func (.func 122) #[] #[]] w fun e w' => (∃ i : Nat, LowK l t r i ∧ e = .returned (.tuple #[.int .i64 (i : Int), .bool (decide (AtK l t r i))])) ∧ Below w.heap.size w w' := by
  obtain ⟨a, cap, rfl, hm, hc⟩ := h
  clear hm
  have HU : Hid (RowsUp l) := hu
  clear hu
  have b0 : Below w.heap.size w (w.alloc (Obj.cells #[Value.int IntKind.i64 t, Value.int IntKind.i64 r] 46)) := (Below.refl _ _).alloc (Nat.le_refl _) _
  have x0 : (w.alloc (Obj.cells #[Value.int IntKind.i64 t, Value.int IntKind.i64 r] 46)).cell? ⟨w.heap.size, 0, none⟩ = some (.int .i64 t) := by simp [go_sem]
  have x1 : (w.alloc (Obj.cells #[Value.int IntKind.i64 t, Value.int IntKind.i64 r] 46)).cell? ⟨w.heap.size, 1, none⟩ = some (.int .i64 r) := by simp [go_sem]
  go_enter Tryz.func121, Tryz.ntmps121
  go_wp2
  generalize w.alloc (Obj.cells #[Value.int IntKind.i64 t, Value.int IntKind.i64 r] 46) = WA at *
  go_loopw [9, 10] (fun s9 s10 wr => ∃ lo hi : Nat, s9 = .int .i64 lo ∧ s10 = .int .i64 hi ∧ lo ≤ hi ∧ hi ≤ l.length ∧ Below WA.heap.size WA wr ∧ Hid ((∀ j, j < lo → klB (rAt l j).t (rAt l j).r t r = true) ∧ ∀ j, hi ≤ j → j < l.length → klB (rAt l j).t (rAt l j).r t r = false))
    (fun s9 s10 _ => (intOf s10).toNat - (intOf s9).toNat)
  case atStart => exact ⟨0, l.length, rfl, rfl, Nat.zero_le _, Nat.le_refl _, Below.refl _ _, ⟨fun j hj => absurd hj (Nat.not_lt_zero _), fun j h1 h2 => by omega⟩⟩
  case round =>
    rename World => wo
    obtain ⟨p, q, rfl, rfl, hpq, hq, hb, HI⟩ := hrel
    have y0 := cell_stays hb x0
    have y1 := cell_stays hb x1
    have bO := b0.trans (hb.mono b0.size)
    clear x0 x1 b0
    by_cases hlt : p < q
    · obtain ⟨b, off, rfl, _, _, hcc⟩ := hc (by omega)
      obtain ⟨m, hmid⟩ : ∃ m, (p + q) / 2 = m := ⟨_, rfl⟩
      obtain ⟨z0, z1, z2⟩ := hcc m (by omega)
      replace z0 := cell_stays bO z0
      replace z1 := cell_stays bO z1
      replace z2 := cell_stays bO z2
      clear hcc hc
      have em : ((p : Int) + (q : Int)) / 2 = (m : Int) := by omega
      have m0 : (0 : Int) ≤ (m : Int) := by omega
      have m1 : (m : Int) < (l.length : Int) := by omega
      have hmp : p ≤ m := by omega
      have hmq : m < q := by omega
      clear hmid
      obtain ⟨ck, hck⟩ : ∃ ck, ckI (rAt l m).t (rAt l m).r t r = ck := ⟨_, rfl⟩
      have kz0 := cell_regrown z0
      have kz1 := cell_regrown z1
      have kz2 := cell_regrown z2
      have ky0 := cell_regrown y0
      have ky1 := cell_regrown y1
      have HC := fun W => findCmp_any (rAt l m) t r W
      simp only [hck] at HC
      by_cases hneg : ck < 0
      · have HI2 : Hid ((∀ j, j < m + 1 → klB (rAt l j).t (rAt l j).r t r = true) ∧ ∀ j, q ≤ j → j < l.length → klB (rAt l j).t (rAt l j).r t r = false) := by
          refine ⟨fun j hj => ?_, HI.out.2⟩
          have hm' : klB (rAt l m).t (rAt l m).r t r = true := ckI_neg.1 (by rw [hck]; exact hneg)
          by_cases e : j = m
          · subst e; exact hm'
          · exact klB_trans (HU.out j m (by omega) (by omega)) hm'
        clear HI hck z0 z1 z2 y0 y1
        go_wp2_with fail
        refine wp_region_quiet_below (by kernel_rfl) (by kernel_rfl) ?_
        repeat (go_big_quiet_step (first | (go_at_call 122; exact Calls.regrown_of (HC _))))
        refine wpQuiet_nil ?_
        intro w2 hw2
        obtain ⟨⟨dq, osq⟩, hw3⟩ := hw2
        have hb2 : Below _ _ w2 := hw3 ▸ below_regrown _ dq osq
        clear hw3 kz0 kz1 kz2 ky0 ky1
        go_wp2
        go_roundw
        case rel => exact ⟨m + 1, q, by go_num, rfl, by omega, hq, hb.trans (hb2.mono hb.size), HI2⟩
        case measure => simp [intOf]; omega
      · have HI2 : Hid ((∀ j, j < p → klB (rAt l j).t (rAt l j).r t r = true) ∧ ∀ j, m ≤ j → j < l.length → klB (rAt l j).t (rAt l j).r t r = false) := by
          refine ⟨HI.out.1, fun j hj hjl => ?_⟩
          have hm' : klB (rAt l m).t (rAt l m).r t r = false := by
            cases hk : klB (rAt l m).t (rAt l m).r t r with
            | false => rfl
            | true => exact absurd (by rw [← hck]; exact ckI_neg.2 hk) hneg
          by_cases e : j = m
          · subst e; exact hm'
          · cases hk : klB (rAt l j).t (rAt l j).r t r with
            | false => rfl
            | true => rw [klB_trans (HU.out m j (by omega) hjl) hk] at hm'; exact absurd hm' (by decide)
        clear HI hck z0 z1 z2 y0 y1
        go_wp2_with fail
        refine wp_region_quiet_below (by kernel_rfl) (by kernel_rfl) ?_
        repeat (go_big_quiet_step (first | (go_at_call 122; exact Calls.regrown_of (HC _))))
        refine wpQuiet_nil ?_
        intro w2 hw2
        obtain ⟨⟨dq, osq⟩, hw3⟩ := hw2
        have hb2 : Below _ _ w2 := hw3 ▸ below_regrown _ dq osq
        clear hw3 kz0 kz1 kz2 ky0 ky1
        go_wp2
        go_roundw
        case rel => exact ⟨p, m, rfl, rfl, by omega, by omega, hb.trans (hb2.mono hb.size), HI2⟩
        case measure => simp [intOf]; omega
    · obtain rfl : q = p := by omega
      have HL : Hid (LowK l t r q) := ⟨hq, HI.out.1, HI.out.2⟩
      obtain ⟨A, hA⟩ : ∃ A, decide (AtK l t r q) = A := ⟨_, rfl⟩
      have HE : Hid (A = decide (AtK l t r q)) := hA.symm
      by_cases hql : q < l.length
      · obtain ⟨b, off, rfl, _, _, hcc⟩ := hc (by omega)
        obtain ⟨z0, z1, z2⟩ := hcc q hql
        replace z0 := cell_stays bO z0
        replace z1 := cell_stays bO z1
        replace z2 := cell_stays bO z2
        clear hcc hc
        have m0 : (0 : Int) ≤ (q : Int) := by omega
        have m1 : (q : Int) < (l.length : Int) := by omega
        obtain ⟨ck, hck⟩ : ∃ ck, ckI (rAt l q).t (rAt l q).r t r = ck := ⟨_, rfl⟩
        have HA : Hid (A = (ck == 0)) := by
          show _ = _
          rw [← hA, ← hck, Bool.eq_iff_iff, decide_eq_true_iff, beq_iff_eq, ckI_zero]
          exact ⟨fun h => h.2, fun h => ⟨hql, h⟩⟩
        have kz0 := cell_regrown z0
        have kz1 := cell_regrown z1
        have kz2 := cell_regrown z2
        have ky0 := cell_regrown y0
        have ky1 := cell_regrown y1
        have HC := fun W => findCmp_any (rAt l q) t r W
        simp only [hck] at HC
        clear HI hck z0 z1 z2 y0 y1 hA
        go_wp2_with fail
        refine wp_region_quiet_below (by kernel_rfl) (by kernel_rfl) ?_
        repeat (go_big_quiet_step (first | (go_at_call 122; exact Calls.regrown_of (HC _))))
        refine wpQuiet_nil ?_
        intro w2 hw2
        obtain ⟨⟨dq, osq⟩, hw3⟩ := hw2
        have hb2 : Below _ _ w2 := hw3 ▸ below_regrown _ dq osq
        clear hw3 kz0 kz1 kz2 ky0 ky1
        go_wp2
        go_ret2
        exact ⟨⟨q, HL.out, by rw [← HE.out, HA.out]; rfl⟩, bO.trans (hb2.mono bO.size)⟩
      · have HA : Hid (A = false) := by
          show _ = _
          rw [← hA, decide_eq_false_iff_not]
          exact fun h => hql h.1
        clear HI hA hc
        go_wp2_with fail
        refine wp_region_quiet_below (by kernel_rfl) (by kernel_rfl) ?_
        repeat (go_big_quiet_step (fail))
        refine wpQuiet_nil ?_
        intro w2 hw2
        obtain ⟨⟨dq, osq⟩, hw3⟩ := hw2
        have hb2 : Below _ _ w2 := hw3 ▸ below_regrown _ dq osq
        clear hw3
        go_wp2
        go_ret2
        exact ⟨⟨q, HL.out, by rw [← HE.out, HA.out]; rfl⟩, bO.trans (hb2.mono bO.size)⟩

theorem findRow_any (v : Value) (l : List Rw) (t r : Int) (w : World) {lo hi : Nat} (h : RowsAt lo hi w v l) (hu : RowsUp l) (hn : l.length ≤ 1048580) :
    Calls Tryz.prog 83 #[v, .agg #[.int .i64 t, .int .i64 r]] w fun e w' => (∃ i : Nat, LowK l t r i ∧ e = .returned (.tuple #[.int .i64 (i : Int), .bool (decide (AtK l t r i))])) ∧ Below w.heap.size w w' := by
  obtain ⟨a, cap, hv⟩ : ∃ a cap, v = .slice a l.length cap := by obtain ⟨a, cap, h1, _⟩ := h; exact ⟨a, cap, h1⟩
  subst hv
  have b0 : Below w.heap.size w (w.alloc (Obj.cells #[Value.int IntKind.i64 t, Value.int IntKind.i64 r] 46)) := (Below.refl _ _).alloc (Nat.le_refl _) _
  go_enter Tryz.func83, Tryz.ntmps83
  go_wp2_with fail
  refine (search_any _ l t r _ (h.stays b0) hu hn).mono ?_
  rintro e w1 ⟨⟨i, hL, rfl⟩, hb1⟩
  obtain ⟨A, hA⟩ : ∃ A, decide (AtK l t r i) = A := ⟨_, rfl⟩
  have HL : Hid (LowK l t r i) := hL
  have HA : Hid (A = decide (AtK l t r i)) := hA.symm
  rw [hA]
  clear hL hA
  go_wp2
  go_ret2
  exact ⟨⟨i, HL.out, by rw [← HA.out]; rfl⟩, b0.trans (hb1.mono b0.size)⟩
end Go.Proofs.YtmecbppblbmchaaGreatDoor

/- What is read, as a function. -/
namespace Go.Proofs.YtmecbppblbmchaaGreatDoor
open Go.ChangeShapes Go.WideShapes Go.ChangeAt Go.RowKit Go.Sort Go.Maps
set_option linter.unusedVariables false
set_option maxRecDepth 100000

theorem RAns.one' {l : List Ch} {t r h : Int} {p q : Int × Int} (hp : RAns l t r h p) (hq : RAns l t r h q) : p = q := by
  rcases hp with ⟨h1, rfl⟩ | ⟨h1, x, hx, rfl⟩ <;> rcases hq with ⟨g1, rfl⟩ | ⟨g1, y, hy, rfl⟩
  · rfl
  · exact absurd g1 h1
  · exact absurd h1 g1
  · rw [hx.one hy]

open Classical in
/-- The one thing of which P speaks. -/
noncomputable def oneP {α : Type} (d : α) (P : α → Prop) : α := if hx : ∃ p, P p then Classical.choose hx else d
theorem oneP_is {α : Type} {d : α} {P : α → Prop} (h1 : ∀ p q, P p → P q → p = q) {p : α} (hp : P p) : p = oneP d P := by
  have hx : ∃ p, P p := ⟨p, hp⟩
  unfold oneP
  rw [dif_pos hx]
  exact h1 _ _ hp (Classical.choose_spec hx)
noncomputable def readP (l : List Ch) (t r h : Int) : Int × Int := oneP (0, 0) (RAns l t r h)
theorem readP_is {l : List Ch} {t r h : Int} {p : Int × Int} (hp : RAns l t r h p) : p = readP l t r h := oneP_is (fun _ _ h1 h2 => h1.one' h2) hp
theorem readP_congr {l l' : List Ch} {t r h h' : Int} (H : ∀ p, RAns l t r h p ↔ RAns l' t r h' p) : readP l t r h = readP l' t r h' :=
  congrArg (oneP (0, 0)) (funext fun p => propext (H p))

theorem isLast_ex (l : List Vr) (h : Int) : ∀ q, ∃ x, IsLast l h q x
  | 0 => ⟨(0, 0), .inl ⟨rfl, fun j hj => absurd hj (Nat.not_lt_zero _)⟩⟩
  | q + 1 => by
    obtain ⟨x, hx⟩ := isLast_ex l h q
    by_cases e : (vAt l q).1 ≤ h
    · exact ⟨_, IsLast.step_yes e⟩
    · exact ⟨x, hx.step_no (by omega)⟩
theorem isRead_ex {l : List Ch} (hs : storeOk l) (t r h : Int) : ∃ x, IsRead l t r h x := by
  by_cases hx : ∃ i, i < l.length ∧ km l i t r
  · obtain ⟨i, hi, hk⟩ := hx
    obtain ⟨x, hx⟩ := isLast_ex (cAt l i).l h (cAt l i).l.length
    exact ⟨x, .inr ⟨i, hi, hk, fun j hj hk' => by have := keys_one hs (show j < l.length by omega) hi hk' hk; omega, hx⟩⟩
  · exact ⟨(0, 0), .inl ⟨rfl, fun i hi hk => hx ⟨i, hi, hk⟩⟩⟩
theorem rAns_ex (l : List Ch) (t r h : Int) : RAns l t r h (readP l t r h) := by
  by_cases hc : storeOk l ∧ hourB h = true ∧ tabB t = true
  · obtain ⟨x, hx⟩ := isRead_ex hc.1 t r h
    have hp : RAns l t r h (x.2, x.1) := .inr ⟨hc, x, hx, rfl⟩
    rw [← readP_is hp]; exact hp
  · have hp : RAns l t r h (0, -1) := .inl ⟨hc, rfl⟩
    rw [← readP_is hp]; exact hp
end Go.Proofs.YtmecbppblbmchaaGreatDoor

/- Where a key stands in rows, as a function. -/
namespace Go.Proofs.YtmecbppblbmchaaGreatDoor
open Go.ChangeShapes Go.WideShapes Go.ChangeAt Go.RowKit Go.Sort
set_option linter.unusedVariables false
set_option maxRecDepth 100000

theorem klB_no {a b : Int} : klB a b a b = false := by
  cases h : klB a b a b with
  | false => rfl
  | true => rw [klB_iff] at h; omega
theorem LowK.one {l : List Rw} {t r : Int} {i j : Nat} (hi : LowK l t r i) (hj : LowK l t r j) : i = j := by
  obtain ⟨a1, a2, a3⟩ := hi
  obtain ⟨b1, b2, b3⟩ := hj
  rcases Nat.lt_trichotomy i j with h | h | h
  · have h1 := a3 i (Nat.le_refl _) (by omega)
    rw [b2 i h] at h1
    exact absurd h1 (by decide)
  · exact h
  · have h1 := b3 j (Nat.le_refl _) (by omega)
    rw [a2 j h] at h1
    exact absurd h1 (by decide)
theorem LowK.at {l : List Rw} {t r : Int} {i j : Nat} (hi : LowK l t r i) (hu : RowsUp l) (hj : AtK l t r j) : j = i := by
  obtain ⟨a1, a2, a3⟩ := hi
  obtain ⟨b1, rfl, rfl⟩ := hj
  rcases Nat.lt_trichotomy i j with h | h | h
  · have h1 := hu i j h b1
    rw [a3 i (Nat.le_refl _) (by omega)] at h1
    exact absurd h1 (by decide)
  · exact h.symm
  · have h1 := a2 j h
    rw [klB_no] at h1
    exact absurd h1 (by decide)
theorem lowK_ex {l : List Rw} (hu : RowsUp l) (t r : Int) : ∃ i, LowK l t r i := by
  have key : ∀ n, n ≤ l.length → ∃ i, i ≤ n ∧ (∀ j, j < i → klB (rAt l j).t (rAt l j).r t r = true) ∧ ∀ j, i ≤ j → j < n → klB (rAt l j).t (rAt l j).r t r = false := by
    intro n
    induction n with
    | zero => exact fun _ => ⟨0, Nat.le_refl _, fun j hj => absurd hj (Nat.not_lt_zero _), fun j _ hj => absurd hj (Nat.not_lt_zero _)⟩
    | succ n ih =>
      intro hn
      obtain ⟨i, h1, h2, h3⟩ := ih (by omega)
      cases hk : klB (rAt l n).t (rAt l n).r t r with
      | true =>
        refine ⟨n + 1, Nat.le_refl _, fun j hj => ?_, fun j h4 h5 => by omega⟩
        by_cases e : j = n
        · subst e; exact hk
        · exact klB_trans (hu j n (by omega) (by omega)) hk
      | false =>
        refine ⟨i, by omega, h2, fun j h4 h5 => ?_⟩
        by_cases e : j = n
        · subst e; exact hk
        · exact h3 j h4 (by omega)
  obtain ⟨i, h1, h2, h3⟩ := key l.length (Nat.le_refl _)
  exact ⟨i, h1, h2, h3⟩
noncomputable def lowP (l : List Rw) (t r : Int) : Nat := oneP 0 (LowK l t r)
theorem lowP_is {l : List Rw} {t r : Int} {i : Nat} (h : LowK l t r i) : i = lowP l t r := oneP_is (fun _ _ h1 h2 => h1.one h2) h
theorem lowP_low {l : List Rw} (hu : RowsUp l) (t r : Int) : LowK l t r (lowP l t r) := by
  obtain ⟨i, hi⟩ := lowK_ex hu t r
  rw [← lowP_is hi]; exact hi
theorem findRow_is (v : Value) (l : List Rw) (t r : Int) (w : World) {lo hi : Nat} (h : RowsAt lo hi w v l) (hu : RowsUp l) (hn : l.length ≤ 1048580) :
    Calls Tryz.prog 83 #[v, .agg #[.int .i64 t, .int .i64 r]] w fun e w' => e = .returned (.tuple #[.int .i64 (lowP l t r : Int), .bool (decide (AtK l t r (lowP l t r)))]) ∧ Below w.heap.size w w' :=
  (findRow_any v l t r w h hu hn).mono fun e w' ⟨⟨i, h1, h2⟩, h3⟩ => ⟨by rw [h2, lowP_is h1], h3⟩
theorem rowsUp_of {l : List Rw} (h : ∀ i, i < l.length → rowOk l i) : RowsUp l := by
  intro i j
  induction j with
  | zero => exact fun h0 => absurd h0 (Nat.not_lt_zero _)
  | succ j ih =>
    intro hij hj
    have h1 := (h (j + 1) hj).2 (Nat.succ_pos _)
    simp only [Nat.add_sub_cancel] at h1
    by_cases e : i = j
    · subst e; exact h1
    · exact klB_trans (ih (by omega) (by omega)) h1
theorem mgr_up {m : Md} (h : mgrOk m) {i : Nat} (hi : i < m.x.length) : RowsUp (tAt m.x i).w := rowsUp_of (h.2.2.2.2.2.2.2 i hi).2.2.2.2.2.2
end Go.Proofs.YtmecbppblbmchaaGreatDoor

/- The program's ReadAt answers what the versions say. -/
namespace Go.Proofs.YtmecbppblbmchaaGreatDoor
open Go.ChangeShapes Go.WideShapes Go.ChangeAt Go.RowKit Go.Sort Go.Maps
set_option linter.unusedVariables false
set_option maxRecDepth 100000
attribute [local go_sem ↓] Go.wp_at_zero Go.wp_at_succ

set_option maxHeartbeats 1000000 in
theorem implReadAt_any (v : Value) (l : List Ch) (t r h : Int) (w : World) {lo hi : Nat} (hl : ChainsAt lo hi w v l) (hw : WfCh l) (wt : wf t) (wr : wf r) (hn : l.length ≤ 1048576) :
    Calls Tryz.prog 82 #[.agg #[v], .agg #[.int .i64 t, .int .i64 r], .int .i64 h] w fun e w' => ∃ p : Int × Int, e = .returned (.tuple #[.int .i64 p.1, .int .i64 p.2]) ∧ RAns l t r h p ∧ Below w.heap.size w w' := by
  obtain ⟨a, cap, hv⟩ : ∃ a cap, v = .slice a l.length cap := by obtain ⟨a, cap, h1, _⟩ := hl; exact ⟨a, cap, h1⟩
  subst hv
  have hbx : Below w.heap.size w ((w.alloc (Obj.cells #[Value.slice a l.length cap] 32)).alloc (Obj.cells #[.int .i64 t, .int .i64 r] 46)) := ((Below.refl _ _).alloc (Nat.le_refl _) _).alloc (by simp) _
  go_enter Tryz.func82, Tryz.ntmps82
  go_wp2_with fail
  refine (implStoreOk_any _ l _ (hl.stays hbx)).mono ?_
  rintro e w1 ⟨⟨q, rfl, hq⟩, hb1⟩
  have b1 := hbx.trans (hb1.mono hbx.size)
  have p0 : w1.cell? ⟨w.heap.size, 0, none⟩ = some (.slice a l.length cap) := cell_stays hb1 (by simp [go_sem])
  have p1 : w1.cell? ⟨w.heap.size + 1, 0, none⟩ = some (.int .i64 t) := cell_stays hb1 (by simp [go_sem])
  have p2 : w1.cell? ⟨w.heap.size + 1, 1, none⟩ = some (.int .i64 r) := cell_stays hb1 (by simp [go_sem])
  clear hb1 hbx
  by_cases hs : storeOk l
  · obtain rfl := hq.2 hs
    clear hq
    by_cases hh : hourB h = true
    · by_cases ht : tabB t = true
      · go_wp2_with (first | (go_at_call 106; refine (isHour_any _ _).mono ?_; rintro e w2 ⟨rfl, rfl⟩) | (go_at_call 118; refine (isTable_any _ _).mono ?_; rintro e w2 ⟨rfl, rfl⟩))
        have z2 : w.heap.size + 1 < w2.heap.size := cell_lt p1
        have hS2 : Boxes w a l.length cap t r w2 := ⟨b1, z2, p0, p1, p2⟩
        go_region_held3 (fun x => Below w.heap.size w x ∧ w.heap.size + 1 < x.heap.size ∧ x.cell? ⟨w.heap.size, 0, none⟩ = some (.slice a l.length cap) ∧ x.cell? ⟨w.heap.size + 1, 0, none⟩ = some (.int .i64 t) ∧ x.cell? ⟨w.heap.size + 1, 1, none⟩ = some (.int .i64 r))
          (first | assumption | exact hS6 | exact hS5 | exact hS5.kept (below_alloc _ _) | exact (hS2.kept ((Below.refl _ _).drew.alloc (Nat.le_refl _) _)) | exact hS6.kept (below_alloc _ _) | exact hS6.set hz5 _ _ | exact hS6.set z2 _ _ | exact hS2.kept (Below.refl _ _).drew)
          (first | (go_at_call 120; refine (chainsByKey_any _ l _ (hl.stays ?_) hw hn).mono ?_; (first | exact b1.drew | exact b1.drew.alloc b1.size _); rintro e w5 ⟨bm, D, f, rfl, hown, hat, hby, hbm, hb5⟩; have hlk := look_vers hown hat wt wr; have hlkA := fun o => look_vers (hown.alloc o) hat wt wr; obtain ⟨L, la, lc, hL, hvL, hrd⟩ := byKey_read hs hby t r; rw [hL] at hlk; simp only [hL] at hlkA; have hvL5 := hvL.stays hb5; have hz5 : w.heap.size + 1 < w5.heap.size := by { have := hb5.size; simp at this; omega }; (try have hz25 : w2.heap.size < w5.heap.size := lt_of_alloc (w := w2.drew) hb5.size); obtain ⟨hc5, hf5⟩ := bcell hb5; have hS5 : Boxes w a l.length cap t r w5 := by { first | exact (hS2.kept (Below.refl _ _).drew).kept hb5 | exact (hS2.kept ((Below.refl _ _).drew.alloc (Nat.le_refl _) _)).kept hb5 }) | (go_at_call 119; refine (verAt_any (lo := lo) (hi := hi) _ L h _ ?_).mono ?_; (first | exact hvL5 | exact hvL5.stays (below_alloc _ _)); rintro e w6 ⟨k, rfl, hk, hb5⟩; have hS6 : Boxes w a l.length cap t r w6 := by { first | exact hS5.kept hb5 | exact (hS5.kept (below_alloc _ _)).kept hb5 }; obtain ⟨hc6, hf6⟩ := bcell hb5))
        all_goals
          rename_i hH
          go_wp2
          go_region
          all_goals
            go_wp2
            go_ret2
            exact ⟨((rdV L k).2, (rdV L k).1), rfl, .inr ⟨⟨hs, hh, ht⟩, _, hrd h k hk, rfl⟩, hH.1.drew⟩
      · have ht' : tabB t = false := by simpa using ht
        go_wp2_with (first | (go_at_call 106; refine (isHour_any _ _).mono ?_; rintro e w2 ⟨rfl, rfl⟩) | (go_at_call 118; refine (isTable_any _ _).mono ?_; rintro e w2 ⟨rfl, rfl⟩))
        go_ret2
        exact ⟨(0, -1), rfl, .inl ⟨fun h => ht h.2.2, rfl⟩, b1⟩
    · have hh' : hourB h = false := by simpa using hh
      go_wp2_with (first | (go_at_call 106; refine (isHour_any _ _).mono ?_; rintro e w2 ⟨rfl, rfl⟩))
      go_ret2
      exact ⟨(0, -1), rfl, .inl ⟨fun h => hh h.2.1, rfl⟩, b1⟩
  · obtain rfl := says_false hq hs
    clear hq
    go_wp2
    go_ret2
    exact ⟨(0, -1), rfl, .inl ⟨fun h => hs h.1, rfl⟩, b1⟩

end Go.Proofs.YtmecbppblbmchaaGreatDoor

/- The program's ReadAt answers what is read. -/
namespace Go.Proofs.YtmecbppblbmchaaGreatDoor
open Go.ChangeShapes Go.WideShapes Go.ChangeAt Go.RowKit Go.Sort Go.Maps
set_option linter.unusedVariables false
set_option maxRecDepth 100000

theorem implReadAt_is (v : Value) (l : List Ch) (t r h : Int) (w : World) {lo hi : Nat} (hl : ChainsAt lo hi w v l) (hw : WfCh l) (wt : wf t) (wr : wf r) (hn : l.length ≤ 1048576) :
    Calls Tryz.prog 82 #[.agg #[v], .agg #[.int .i64 t, .int .i64 r], .int .i64 h] w fun e w' => e = .returned (.tuple #[.int .i64 (readP l t r h).1, .int .i64 (readP l t r h).2]) ∧ Below w.heap.size w w' :=
  (implReadAt_any v l t r h w hl hw wt wr hn).mono fun e w' ⟨p, h1, h2, h3⟩ => ⟨by rw [h1, readP_is h2], h3⟩
end Go.Proofs.YtmecbppblbmchaaGreatDoor
