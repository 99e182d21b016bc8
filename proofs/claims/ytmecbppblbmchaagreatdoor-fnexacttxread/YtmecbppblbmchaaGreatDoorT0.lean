import Derived.Test.YtmecbppblbmchaaGreatDoorMOk3
import Derived.Test.YtmecbppblbmchaaGreatDoorMOk2
import Derived.Test.YtmecbppblbmchaaGreatDoorOk
import Derived.Test.YtmecbppblbmchaaGreatDoorLastV
/- Which transaction is meant: spec.l2tx and impl.underWay. -/
namespace Go.Proofs.YtmecbppblbmchaaGreatDoor
open Go.ChangeShapes Go.WideShapes Go.ChangeAt Go.RowKit Go.Sort
set_option linter.unusedVariables false
set_option maxRecDepth 100000
attribute [local go_sem ↓] Go.wp_at_zero Go.wp_at_succ

/-- The i-th transaction is the first one of that number. -/
def IsTx (m : Md) (tx : Int) (i : Nat) : Prop := i < m.x.length ∧ (tAt m.x i).i = tx ∧ ∀ j, j < i → (tAt m.x j).i ≠ tx
def NoTx (m : Md) (tx : Int) : Prop := ∀ i, i < m.x.length → (tAt m.x i).i ≠ tx
theorem IsTx.one {m : Md} {tx : Int} {i j : Nat} (hi : IsTx m tx i) (hj : IsTx m tx j) : i = j := by
  rcases Nat.lt_trichotomy i j with h | h | h
  · exact absurd hi.2.1 (hj.2.2 i h)
  · exact h
  · exact absurd hj.2.1 (hi.2.2 j h)
theorem tx_either (m : Md) (tx : Int) : NoTx m tx ∨ ∃ i, IsTx m tx i := by
  have key : ∀ n, n ≤ m.x.length → (∀ j, j < n → (tAt m.x j).i ≠ tx) ∨ ∃ i, IsTx m tx i := fun n => by
    induction n with
    | zero => exact fun _ => .inl fun j hj => absurd hj (Nat.not_lt_zero _)
    | succ n ih =>
      intro hn
      rcases ih (by omega) with h | h
      · by_cases e : (tAt m.x n).i = tx
        · exact .inr ⟨n, by omega, e, h⟩
        · refine .inl fun j hj => ?_
          by_cases e' : j = n
          · exact e' ▸ e
          · exact h j (by omega)
      · exact .inr h
  exact key _ (Nat.le_refl _)

theorem l2tx_any (b : Nat) (vs vt ve : Value) (m : Md) (tx : Int) (w : World) {lo hi : Nat} (hbox : MBox w b vs m.c m.n vt ve) (h : TxsAt lo hi w vt m.x) :
    Calls Tryz.prog 45 #[.pointer (some ⟨b, 0, none⟩), .int .i64 tx] w fun e w' => (∃ x, e = .returned (.int .i64 x) ∧ ((x = -1 ∧ NoTx m tx) ∨ ∃ i : Nat, x = i ∧ IsTx m tx i)) ∧ w' = w := by
  obtain ⟨a, cap, rfl, hm, hc⟩ := h
  unfold maxLen at hm
  obtain ⟨q0, q1, q2, q3, q4⟩ := hbox
  go_enter Tryz.func45, Tryz.ntmps45
  go_wp2
  go_loop [5] (fun i => ∃ k : Nat, k ≤ m.x.length ∧ i = .int .i64 k ∧ ∀ j, j < k → (tAt m.x j).i ≠ tx) (fun i => m.x.length - (intOf i).toNat)
  case atStart => exact ⟨0, Nat.zero_le _, rfl, fun j hj => absurd hj (Nat.not_lt_zero _)⟩
  case round =>
    obtain ⟨k, hk, rfl, hs⟩ := hrel
    by_cases hlt : k < m.x.length
    · obtain ⟨bt, off, rfl, _, _, hcc⟩ := hc (by omega)
      have c0 := (hcc k hlt).1
      clear hcc hc
      by_cases he : (tAt m.x k).i = tx
      · have he' : ((tAt m.x k).i == tx) = true := by simp [he]
        have HE : Hid ((tAt m.x k).i = tx) := he
        clear he
        go_wp2
        go_ret
        exact ⟨⟨_, rfl, .inr ⟨k, rfl, hlt, HE.out, hs⟩⟩, rfl⟩
      · have he' : ((tAt m.x k).i == tx) = false := by rw [beq_eq_false_iff_ne]; exact he
        have hn := upto_succ hs he
        clear he hs
        go_wp2
        go_round
        case rel => exact ⟨k + 1, by omega, by go_num, hn⟩
        case measure => simp [intOf]; omega
    · clear hc
      go_wp2
      go_ret
      exact ⟨⟨_, rfl, .inl ⟨rfl, fun i hi => hs i (by omega)⟩⟩, rfl⟩

/-- What underWay answers. -/
def UAns (m : Md) (tx : Int) (a : Option Addr) (e : Ending) : Prop :=
  (mgrOk m ∧ ∃ i bt off, IsTx m tx i ∧ a = some ⟨bt, off, none⟩ ∧ e = .returned (.tuple #[.pointer (some ⟨bt, off + i * 3, none⟩), .nilIface])) ∨
  ((¬ mgrOk m ∨ NoTx m tx) ∧ e = .returned (.tuple #[.pointer none, .iface 113 (.agg #[.int .i64 1])]))

set_option maxHeartbeats 1000000 in
theorem underWay_any (b : Nat) (vs : Value) (a : Option Addr) (cap : Nat) (ve : Value) (m : Md) (tx : Int) (w : World) {lo hi : Nat} (hbox : MBox w b vs m.c m.n (.slice a m.x.length cap) ve) (h : MAt lo hi w vs (.slice a m.x.length cap) ve m) :
    Calls Tryz.prog 91 #[.pointer (some ⟨b, 0, none⟩), .int .i64 tx] w fun e w' => UAns m tx a e ∧ Below w.heap.size w w' := by
  obtain ⟨q0, q1, q2, q3, q4⟩ := id hbox
  go_enter Tryz.func91, Tryz.ntmps91
  by_cases ho : mgrOk m
  · go_wp2_with (go_at_call 69; refine (implMgrOk_any _ _ _ m _ h).mono ?_; rintro e w1 ⟨⟨q, rfl, hq⟩, hb1⟩; obtain rfl := hq.2 ho; clear hq; obtain ⟨r0, r1, r2, r3, r4⟩ := hbox.stays hb1)
    obtain ⟨a', cap', e', hm, hc⟩ := h.x.stays hb1
    injection e' with e1 e2 e3
    subst e1 e3
    unfold maxLen at hm
    clear e2 q0 q1 q2 q3 q4
    go_loop [6, 19] (fun y i => ∃ k : Nat, k ≤ m.x.length ∧ i = .int .i64 k ∧ ∀ j, j < k → (tAt m.x j).i ≠ tx) (fun _ i => m.x.length - (intOf i).toNat)
    case atStart => exact ⟨0, Nat.zero_le _, rfl, fun j hj => absurd hj (Nat.not_lt_zero _)⟩
    case round =>
      obtain ⟨k, hk, rfl, hs⟩ := hrel
      by_cases hlt : k < m.x.length
      · obtain ⟨bt, off, rfl, _, _, hcc⟩ := hc (by omega)
        have c0 := (hcc k hlt).1
        clear hcc hc
        by_cases he : (tAt m.x k).i = tx
        · have he' : ((tAt m.x k).i == tx) = true := by simp [he]
          have HE : Hid ((tAt m.x k).i = tx) := he
          clear he
          go_wp2
          go_ret2
          exact ⟨.inl ⟨ho, k, bt, off, ⟨hlt, HE.out, hs⟩, rfl, rfl⟩, hb1⟩
        · have he' : ((tAt m.x k).i == tx) = false := by rw [beq_eq_false_iff_ne]; exact he
          have hn := upto_succ hs he
          clear he hs
          go_wp2
          go_round
          case rel => exact ⟨k + 1, by omega, by go_num, hn⟩
          case measure => simp [intOf]; omega
      · clear hc
        go_wp2
        go_ret2
        exact ⟨.inr ⟨.inr fun i hi => hs i (by omega), rfl⟩, hb1⟩
  · go_wp2_with (go_at_call 69; refine (implMgrOk_any _ _ _ m _ h).mono ?_; rintro e w1 ⟨⟨q, rfl, hq⟩, hb1⟩; obtain rfl := says_false hq ho; clear hq)
    go_ret2
    exact ⟨.inr ⟨.inl ho, rfl⟩, hb1⟩

end Go.Proofs.YtmecbppblbmchaaGreatDoor

/- The program's hasRoom. -/
namespace Go.Proofs.YtmecbppblbmchaaGreatDoor
open Go.ChangeShapes Go.WideShapes Go.ChangeAt Go.RowKit Go.Sort
set_option linter.unusedVariables false
set_option maxRecDepth 100000
attribute [local go_sem ↓] Go.wp_at_zero Go.wp_at_succ

def refE (c : Int) : Value := .iface 113 (.agg #[.int .i64 c])
theorem hasRoom_any (a1 a2 a3 : Option Addr) (n1 c1 n2 c2 n3 c3 : Nat) (c n : Int) (w : World) (hn : n3 ≤ 1048580) :
    Calls Tryz.prog 70 #[.agg #[.slice a1 n1 c1, .int .i64 c, .int .i64 n, .slice a2 n2 c2, .slice a3 n3 c3]] w fun e w' => e = .returned (.bool (decide (n3 ≤ 2998))) ∧ Below w.heap.size w w' := by
  by_cases h : n3 ≤ 2998
  · have h' : (n3 : Int) ≤ 2998 := by omega
    go_enter Tryz.func70, Tryz.ntmps70
    go_wp2
    go_ret
    exact ⟨by rw [decide_eq_true h]; rfl, (Below.refl _ _).alloc (Nat.le_refl _) _⟩
  · have h' : ¬ (n3 : Int) ≤ 2998 := by omega
    go_enter Tryz.func70, Tryz.ntmps70
    go_wp2
    go_ret
    exact ⟨by first | rfl | (rw [decide_eq_false h]; rfl), (Below.refl _ _).alloc (Nat.le_refl _) _⟩

end Go.Proofs.YtmecbppblbmchaaGreatDoor

/- The program's stepping: the transaction that is to read or to write a key. -/
namespace Go.Proofs.YtmecbppblbmchaaGreatDoor
open Go.ChangeShapes Go.WideShapes Go.ChangeAt Go.RowKit Go.Sort
set_option linter.unusedVariables false
set_option maxRecDepth 100000
attribute [local go_sem ↓] Go.wp_at_zero Go.wp_at_succ

/-- What stepping answers. -/
def StAns (m : Md) (tx t : Int) (a : Option Addr) (e : Ending) : Prop :=
  (mgrOk m ∧ tabB t = true ∧ m.h.length ≤ 2998 ∧ ∃ i bt off, IsTx m tx i ∧ a = some ⟨bt, off, none⟩ ∧ e = .returned (.tuple #[.pointer (some ⟨bt, off + i * 3, none⟩), .nilIface])) ∨
  ((¬ mgrOk m ∨ NoTx m tx ∨ ¬ tabB t = true) ∧ e = .returned (.tuple #[.pointer none, refE 1])) ∨
  (mgrOk m ∧ (∃ i, IsTx m tx i) ∧ tabB t = true ∧ ¬ m.h.length ≤ 2998 ∧ e = .returned (.tuple #[.pointer none, refE 2]))

set_option maxHeartbeats 2000000 in
theorem stepping_any (b : Nat) (vs : Value) (a : Option Addr) (cap : Nat) (ve : Value) (m : Md) (tx t r : Int) (w : World) {lo hi : Nat} (hbox : MBox w b vs m.c m.n (.slice a m.x.length cap) ve) (h : MAt lo hi w vs (.slice a m.x.length cap) ve m) (hn : m.h.length ≤ 1048580) :
    Calls Tryz.prog 81 #[.pointer (some ⟨b, 0, none⟩), .int .i64 tx, .agg #[.int .i64 t, .int .i64 r]] w fun e w' => StAns m tx t a e ∧ Below w.heap.size w w' := by
  obtain ⟨a1, cap1, hv1⟩ : ∃ a cap, vs = .slice a m.s.length cap := by obtain ⟨a, cap, h1, _⟩ := h.s; exact ⟨a, cap, h1⟩
  obtain ⟨a3, cap3, hv3⟩ : ∃ a cap, ve = .slice a m.h.length cap := by obtain ⟨a, cap, h1, _⟩ := h.h; exact ⟨a, cap, h1⟩
  subst hv1 hv3
  have b0 : Below w.heap.size w (w.alloc (Obj.cells #[Value.int IntKind.i64 t, Value.int IntKind.i64 r] 46)) := (Below.refl _ _).alloc (Nat.le_refl _) _
  have x0 : (w.alloc (Obj.cells #[Value.int IntKind.i64 t, Value.int IntKind.i64 r] 46)).cell? ⟨w.heap.size, 0, none⟩ = some (.int .i64 t) := by simp [go_sem]
  have h0 := h.stays b0
  have hb0 := hbox.stays b0
  go_enter Tryz.func81, Tryz.ntmps81
  go_wp2_with fail
  generalize w.alloc (Obj.cells #[Value.int IntKind.i64 t, Value.int IntKind.i64 r] 46) = W at *
  refine (underWay_any b _ a cap _ m tx _ hb0 h0).mono ?_
  rintro e w1 ⟨hU, hb1⟩
  have b1 := b0.trans (hb1.mono b0.size)
  have y0 := cell_stays hb1 x0
  have hb1' := hb0.stays hb1
  clear x0 hb1 h0 hb0 b0
  rcases hU with ⟨hok, i, bt, off, hi, rfl, rfl⟩ | ⟨hno, rfl⟩
  · have HO : Hid (mgrOk m) := hok
    have HI : Hid (IsTx m tx i) := hi
    clear hok hi
    by_cases ht : tabB t = true
    · have HT : Hid (tabB t = true) := ht
      go_wp2_with fail
      refine (isTable_any _ _).mono ?_
      rw [ht]
      rintro e w2 ⟨rfl, rfl⟩
      clear ht
      obtain ⟨z0, z1, z2, z3, z4⟩ := hb1'
      go_wp2_with fail
      refine (hasRoom_any _ _ _ _ _ _ _ _ _ _ _ _ hn).mono ?_
      rintro e w3 ⟨rfl, hb3⟩
      have b3 := b1.trans (hb3.mono b1.size)
      by_cases eh : m.h.length ≤ 2998
      · rw [decide_eq_true eh]
        have HH : Hid (m.h.length ≤ 2998) := eh
        clear eh
        go_wp2
        go_ret2
        exact ⟨.inl ⟨HO.out, HT.out, HH.out, i, bt, off, HI.out, rfl, rfl⟩, b3⟩
      · rw [decide_eq_false eh]
        have HH : Hid (¬ m.h.length ≤ 2998) := eh
        clear eh
        go_wp2
        go_ret2
        exact ⟨.inr (.inr ⟨HO.out, ⟨i, HI.out⟩, HT.out, HH.out, rfl⟩), b3⟩
    · have HT : Hid (¬ tabB t = true) := ht
      have ht' : tabB t = false := by simpa using ht
      clear ht
      go_wp2_with fail
      refine (isTable_any _ _).mono ?_
      rw [ht']
      rintro e w2 ⟨rfl, rfl⟩
      clear ht'
      go_wp2
      go_ret2
      exact ⟨.inr (.inl ⟨.inr (.inr HT.out), rfl⟩), b1⟩
  · have HN : Hid (¬ mgrOk m ∨ NoTx m tx) := hno
    clear hno
    go_wp2
    go_ret2
    exact ⟨.inr (.inl ⟨by rcases HN.out with h | h; exact .inl h; exact .inr (.inl h), rfl⟩), b1⟩
end Go.Proofs.YtmecbppblbmchaaGreatDoor

/- Where a key stands in rows: the program's findRow. -/
namespace Go.Proofs.YtmecbppblbmchaaGreatDoor
open Go.ChangeShapes Go.WideShapes Go.ChangeAt Go.RowKit Go.Sort
set_option linter.unusedVariables false
set_option maxRecDepth 100000
attribute [local go_sem ↓] Go.wp_at_zero Go.wp_at_succ

/-- What compareKeys says. -/
def ckI (a b c d : Int) : Int := if klB a b c d = true then -1 else if klB c d a b = true then 1 else 0
theorem ckI_neg {a b c d : Int} : ckI a b c d < 0 ↔ klB a b c d = true := by
  unfold ckI
  by_cases h1 : klB a b c d = true
  · simp [h1]
  · by_cases h2 : klB c d a b = true <;> simp [h1, h2]
theorem ckI_zero {a b c d : Int} : ckI a b c d = 0 ↔ (a = c ∧ b = d) := by
  unfold ckI
  by_cases h1 : klB a b c d = true
  · simp [h1]; rw [klB_iff] at h1; omega
  · by_cases h2 : klB c d a b = true
    · simp [h1, h2]; rw [klB_iff] at h2; omega
    · simp [h1, h2]; rw [klB_iff] at h1 h2; omega

theorem compareKeys_any (a b c d : Int) (w : World) :
    Calls Tryz.prog 123 #[.agg #[.int .i64 a, .int .i64 b], .agg #[.int .i64 c, .int .i64 d]] w fun e w' => e = .returned (.int .i64 (ckI a b c d)) ∧ Below w.heap.size w w' := by
  obtain ⟨k1, hk1⟩ : ∃ k1, klB a b c d = k1 := ⟨_, rfl⟩
  obtain ⟨k2, hk2⟩ : ∃ k2, klB c d a b = k2 := ⟨_, rfl⟩
  have hcf : ckI a b c d = if k1 = true then -1 else if k2 = true then 1 else 0 := by simp only [ckI, hk1, hk2]
  rw [hcf]
  clear hcf
  have b0 : Below w.heap.size w ((w.alloc (Obj.cells #[Value.int IntKind.i64 a, Value.int IntKind.i64 b] 46)).alloc (Obj.cells #[Value.int IntKind.i64 c, Value.int IntKind.i64 d] 46)) := ((Below.refl _ _).alloc (Nat.le_refl _) _).alloc (by simp) _
  have x0 : ((w.alloc (Obj.cells #[Value.int IntKind.i64 a, Value.int IntKind.i64 b] 46)).alloc (Obj.cells #[Value.int IntKind.i64 c, Value.int IntKind.i64 d] 46)).cell? ⟨w.heap.size, 0, none⟩ = some (.int .i64 a) := by simp [go_sem]
  have x1 : ((w.alloc (Obj.cells #[Value.int IntKind.i64 a, Value.int IntKind.i64 b] 46)).alloc (Obj.cells #[Value.int IntKind.i64 c, Value.int IntKind.i64 d] 46)).cell? ⟨w.heap.size, 1, none⟩ = some (.int .i64 b) := by simp [go_sem]
  have x2 : ((w.alloc (Obj.cells #[Value.int IntKind.i64 a, Value.int IntKind.i64 b] 46)).alloc (Obj.cells #[Value.int IntKind.i64 c, Value.int IntKind.i64 d] 46)).cell? ⟨w.heap.size + 1, 0, none⟩ = some (.int .i64 c) := by simp [go_sem]
  have x3 : ((w.alloc (Obj.cells #[Value.int IntKind.i64 a, Value.int IntKind.i64 b] 46)).alloc (Obj.cells #[Value.int IntKind.i64 c, Value.int IntKind.i64 d] 46)).cell? ⟨w.heap.size + 1, 1, none⟩ = some (.int .i64 d) := by simp [go_sem]
  go_enter Tryz.func123, Tryz.ntmps123
  go_wp2_with fail
  generalize (w.alloc (Obj.cells #[Value.int IntKind.i64 a, Value.int IntKind.i64 b] 46)).alloc (Obj.cells #[Value.int IntKind.i64 c, Value.int IntKind.i64 d] 46) = W at *
  refine (implKeyLess_any _ _ _ _ _).mono ?_
  rw [hk1]
  rintro e w1 ⟨rfl, hb1⟩
  have y0 := cell_stays hb1 x0
  have y1 := cell_stays hb1 x1
  have y2 := cell_stays hb1 x2
  have y3 := cell_stays hb1 x3
  have b1 := b0.trans (hb1.mono b0.size)
  clear x0 x1 x2 x3 hb1 b0
  cases k1
  · go_wp2_with fail
    refine (implKeyLess_any _ _ _ _ _).mono ?_
    rw [hk2]
    rintro e w2 ⟨rfl, hb2⟩
    have b2 := b1.trans (hb2.mono b1.size)
    cases k2
    · go_wp2
      go_ret
      exact ⟨rfl, b2⟩
    · go_wp2
      go_ret
      exact ⟨rfl, b2⟩
  · go_wp2
    go_ret
    exact ⟨rfl, b1⟩

theorem findCmp_any (x : Rw) (c d : Int) (w : World) :
    Calls Tryz.prog 122 #[.agg #[.int .i64 x.t, .int .i64 x.r, .int .i64 x.v], .agg #[.int .i64 c, .int .i64 d]] w fun e w' => e = .returned (.int .i64 (ckI x.t x.r c d)) ∧ Below w.heap.size w w' := by
  have b0 : Below w.heap.size w ((w.alloc (Obj.cells #[.int .i64 x.t, .int .i64 x.r, .int .i64 x.v] 111)).alloc (Obj.cells #[Value.int IntKind.i64 c, Value.int IntKind.i64 d] 46)) := ((Below.refl _ _).alloc (Nat.le_refl _) _).alloc (by simp) _
  go_enter Tryz.func122, Tryz.ntmps122
  go_wp2_with fail
  refine (compareKeys_any _ _ _ _ _).mono ?_
  rintro e w1 ⟨rfl, hb1⟩
  go_wp2
  go_ret
  exact ⟨rfl, b0.trans (hb1.mono b0.size)⟩

/-- Each key is ahead of the next ones. -/
def RowsUp (l : List Rw) : Prop := ∀ i j, i < j → j < l.length → klB (rAt l i).t (rAt l i).r (rAt l j).t (rAt l j).r = true
/-- So many keys are ahead of (t, r). -/
def LowK (l : List Rw) (t r : Int) (i : Nat) : Prop := i ≤ l.length ∧ (∀ j, j < i → klB (rAt l j).t (rAt l j).r t r = true) ∧ ∀ j, i ≤ j → j < l.length → klB (rAt l j).t (rAt l j).r t r = false
/-- Row i is of the key (t, r). -/
def AtK (l : List Rw) (t r : Int) (i : Nat) : Prop := i < l.length ∧ (rAt l i).t = t ∧ (rAt l i).r = r
instance (l : List Rw) (t r : Int) (i : Nat) : Decidable (AtK l t r i) := by unfold AtK; infer_instance

set_option maxHeartbeats 4000000 in
theorem search_any (v : Value) (l : List Rw) (t r : Int) (w : World) {lo hi : Nat} (h : RowsAt lo hi w v l) (hu : RowsUp l) (hn : l.length ≤ 1048580) :
    Calls Tryz.prog 121 #[v, .agg #[.int .i64 t, .int .i64 r], .func (.func 122) #[] #[]] w fun e w' => (∃ i : Nat, LowK l t r i ∧ e = .returned (.tuple #[.int .i64 (i : Int), .bool (decide (AtK l t r i))])) ∧ Below w.heap.size w w' := by
  obtain ⟨a, cap, rfl, hm, hc⟩ := h
  clear hm
  have HU : Hid (RowsUp l) := hu
  clear hu
  have b0 : Below w.heap.size w (w.alloc (Obj.cells #[Value.int IntKind.i64 t, Value.int IntKind.i64 r] 46)) := (Below.refl _ _).alloc (Nat.le_refl _) _
  have x0 : (w.alloc (Obj.cells #[Value.int IntKind.i64 t, Value.int IntKind.i64 r] 46)).cell? ⟨w.heap.size, 0, none⟩ = some (.int .i64 t) := by simp [go_sem]
  have x1 : (w.alloc (Obj.cells #[Value.int IntKind.i64 t, Value.int IntKind.i64 r] 46)).cell? ⟨w.heap.size, 1, none⟩ = some (.int .i64 r) := by simp [go_sem]
  go_enter Tryz.func121, Tryz.ntmps121
  go_wp2
  generalize w.alloc (Obj.cells #[Value.int IntKind.i64 t, Value.int IntKind.i64 r] 46) = WA at *
  go_loopw [9, 10] (fun s9 s10 wr => ∃ lo hi : Nat, s9 = .int .i64 lo ∧ s10 = .int .i64 hi ∧ lo ≤ hi ∧ hi ≤ l.length ∧ Below WA.heap.size WA wr ∧ Hid ((∀ j, j < lo → klB (rAt l j).t (rAt l j).r t r = true) ∧ ∀ j, hi ≤ j → j < l.length → klB (rAt l j).t (rAt l j).r t r = false))
    (fun s9 s10 _ => (intOf s10).toNat - (intOf s9).toNat)
  case atStart => exact ⟨0, l.length, rfl, rfl, Nat.zero_le _, Nat.le_refl _, Below.refl _ _, ⟨fun j hj => absurd hj (Nat.not_lt_zero _), fun j h1 h2 => by omega⟩⟩
  case round =>
    rename World => wo
    obtain ⟨p, q, rfl, rfl, hpq, hq, hb, HI⟩ := hrel
    have y0 := cell_stays hb x0
    have y1 := cell_stays hb x1
    have bO := b0.trans (hb.mono b0.size)
    clear x0 x1 b0
    by_cases hlt : p < q
    · obtain ⟨b, off, rfl, _, _, hcc⟩ := hc (by omega)
      obtain ⟨m, hmid⟩ : ∃ m, (p + q) / 2 = m := ⟨_, rfl⟩
      obtain ⟨z0, z1, z2⟩ := hcc m (by omega)
      replace z0 := cell_stays bO z0
      replace z1 := cell_stays bO z1
      replace z2 := cell_stays bO z2
      clear hcc hc
      have em : ((p : Int) + (q : Int)) / 2 = (m : Int) := by omega
      have m0 : (0 : Int) ≤ (m : Int) := by omega
      have m1 : (m : Int) < (l.length : Int) := by omega
      have hmp : p ≤ m := by omega
      have hmq : m < q := by omega
      clear hmid
      obtain ⟨ck, hck⟩ : ∃ ck, ckI (rAt l m).t (rAt l m).r t r = ck := ⟨_, rfl⟩
      have kz0 := cell_regrown z0
      have kz1 := cell_regrown z1
      have kz2 := cell_regrown z2
      have ky0 := cell_regrown y0
      have ky1 := cell_regrown y1
      have HC := fun W => findCmp_any (rAt l m) t r W
      simp only [hck] at HC
      by_cases hneg : ck < 0
      · have HI2 : Hid ((∀ j, j < m + 1 → klB (rAt l j).t (rAt l j).r t r = true) ∧ ∀ j, q ≤ j → j < l.length → klB (rAt l j).t (rAt l j).r t r = false) := by
          refine ⟨fun j hj => ?_, HI.out.2⟩
          have hm' : klB (rAt l m).t (rAt l m).r t r = true := ckI_neg.1 (by rw [hck]; exact hneg)
          by_cases e : j = m
          · subst e; exact hm'
          · exact klB_trans (HU.out j m (by omega) (by omega)) hm'
        clear HI hck z0 z1 z2 y0 y1
        go_wp2_with fail
        refine wp_region_quiet_below (by kernel_rfl) (by kernel_rfl) ?_
        repeat (go_big_quiet_step (first | (go_at_call 122; exact Calls.regrown_of (HC _))))
        refine wpQuiet_nil ?_
        intro w2 hw2
        obtain ⟨⟨dq, osq⟩, hw3⟩ := hw2
        have hb2 : Below _ _ w2 := hw3 ▸ below_regrown _ dq osq
        clear hw3 kz0 kz1 kz2 ky0 ky1
        go_wp2
        go_roundw
        case rel => exact ⟨m + 1, q, by go_num, rfl, by omega, hq, hb.trans (hb2.mono hb.size), HI2⟩
        case measure => simp [intOf]; omega
      · have HI2 : Hid ((∀ j, j < p → klB (rAt l j).t (rAt l j).r t r = true) ∧ ∀ j, m ≤ j → j < l.length → klB (rAt l j).t (rAt l j).r t r = false) := by
          refine ⟨HI.out.1, fun j hj hjl => ?_⟩
          have hm' : klB (rAt l m).t (rAt l m).r t r = false := by
            cases hk : klB (rAt l m).t (rAt l m).r t r with
            | false => rfl
            | true => exact absurd (by rw [← hck]; exact ckI_neg.2 hk) hneg
          by_cases e : j = m
          · subst e; exact hm'
          · cases hk : klB (rAt l j).t (rAt l j).r t r with
            | false => rfl
            | true => rw [klB_trans (HU.out m j (by omega) hjl) hk] at hm'; exact absurd hm' (by decide)
        clear HI hck z0 z1 z2 y0 y1
        go_wp2_with fail
        refine wp_region_quiet_below (by kernel_rfl) (by kernel_rfl) ?_
        repeat (go_big_quiet_step (first | (go_at_call 122; exact Calls.regrown_of (HC _))))
        refine wpQuiet_nil ?_
        intro w2 hw2
        obtain ⟨⟨dq, osq⟩, hw3⟩ := hw2
        have hb2 : Below _ _ w2 := hw3 ▸ below_regrown _ dq osq
        clear hw3 kz0 kz1 kz2 ky0 ky1
        go_wp2
        go_roundw
        case rel => exact ⟨p, m, rfl, rfl, by omega, by omega, hb.trans (hb2.mono hb.size), HI2⟩
        case measure => simp [intOf]; omega
    · obtain rfl : q = p := by omega
      have HL : Hid (LowK l t r q) := ⟨hq, HI.out.1, HI.out.2⟩
      obtain ⟨A, hA⟩ : ∃ A, decide (AtK l t r q) = A := ⟨_, rfl⟩
      have HE : Hid (A = decide (AtK l t r q)) := hA.symm
      by_cases hql : q < l.length
      · obtain ⟨b, off, rfl, _, _, hcc⟩ := hc (by omega)
        obtain ⟨z0, z1, z2⟩ := hcc q hql
        replace z0 := cell_stays bO z0
        replace z1 := cell_stays bO z1
        replace z2 := cell_stays bO z2
        clear hcc hc
        have m0 : (0 : Int) ≤ (q : Int) := by omega
        have m1 : (q : Int) < (l.length : Int) := by omega
        obtain ⟨ck, hck⟩ : ∃ ck, ckI (rAt l q).t (rAt l q).r t r = ck := ⟨_, rfl⟩
        have HA : Hid (A = (ck == 0)) := by
          show _ = _
          rw [← hA, ← hck, Bool.eq_iff_iff, decide_eq_true_iff, beq_iff_eq, ckI_zero]
          exact ⟨fun h => h.2, fun h => ⟨hql, h⟩⟩
        have kz0 := cell_regrown z0
        have kz1 := cell_regrown z1
        have kz2 := cell_regrown z2
        have ky0 := cell_regrown y0
        have ky1 := cell_regrown y1
        have HC := fun W => findCmp_any (rAt l q) t r W
        simp only [hck] at HC
        clear HI hck z0 z1 z2 y0 y1 hA
        go_wp2_with fail
        refine wp_region_quiet_below (by kernel_rfl) (by kernel_rfl) ?_
        repeat (go_big_quiet_step (first | (go_at_call 122; exact Calls.regrown_of (HC _))))
        refine wpQuiet_nil ?_
        intro w2 hw2
        obtain ⟨⟨dq, osq⟩, hw3⟩ := hw2
        have hb2 : Below _ _ w2 := hw3 ▸ below_regrown _ dq osq
        clear hw3 kz0 kz1 kz2 ky0 ky1
        go_wp2
        go_ret2
        exact ⟨⟨q, HL.out, by rw [← HE.out, HA.out]; rfl⟩, bO.trans (hb2.mono bO.size)⟩
      · have HA : Hid (A = false) := by
          show _ = _
          rw [← hA, decide_eq_false_iff_not]
          exact fun h => hql h.1
        clear HI hA hc
        go_wp2_with fail
        refine wp_region_quiet_below (by kernel_rfl) (by kernel_rfl) ?_
        repeat (go_big_quiet_step (fail))
        refine wpQuiet_nil ?_
        intro w2 hw2
        obtain ⟨⟨dq, osq⟩, hw3⟩ := hw2
        have hb2 : Below _ _ w2 := hw3 ▸ below_regrown _ dq osq
        clear hw3
        go_wp2
        go_ret2
        exact ⟨⟨q, HL.out, by rw [← HE.out, HA.out]; rfl⟩, bO.trans (hb2.mono bO.size)⟩

theorem findRow_any (v : Value) (l : List Rw) (t r : Int) (w : World) {lo hi : Nat} (h : RowsAt lo hi w v l) (hu : RowsUp l) (hn : l.length ≤ 1048580) :
    Calls Tryz.prog 83 #[v, .agg #[.int .i64 t, .int .i64 r]] w fun e w' => (∃ i : Nat, LowK l t r i ∧ e = .returned (.tuple #[.int .i64 (i : Int), .bool (decide (AtK l t r i))])) ∧ Below w.heap.size w w' := by
  obtain ⟨a, cap, hv⟩ : ∃ a cap, v = .slice a l.length cap := by obtain ⟨a, cap, h1, _⟩ := h; exact ⟨a, cap, h1⟩
  subst hv
  have b0 : Below w.heap.size w (w.alloc (Obj.cells #[Value.int IntKind.i64 t, Value.int IntKind.i64 r] 46)) := (Below.refl _ _).alloc (Nat.le_refl _) _
  go_enter Tryz.func83, Tryz.ntmps83
  go_wp2_with fail
  refine (search_any _ l t r _ (h.stays b0) hu hn).mono ?_
  rintro e w1 ⟨⟨i, hL, rfl⟩, hb1⟩
  obtain ⟨A, hA⟩ : ∃ A, decide (AtK l t r i) = A := ⟨_, rfl⟩
  have HL : Hid (LowK l t r i) := hL
  have HA : Hid (A = decide (AtK l t r i)) := hA.symm
  rw [hA]
  clear hL hA
  go_wp2
  go_ret2
  exact ⟨⟨i, HL.out, by rw [← HA.out]; rfl⟩, b0.trans (hb1.mono b0.size)⟩
end Go.Proofs.YtmecbppblbmchaaGreatDoor
