import Derived.Test.YtmecbppblbmchaaGreatDoorOk
import Derived.Test.YtmecbppblbmchaaGreatDoorRead
import Derived.Deep.AppendLies
/- Rows that a call owns. -/
namespace Go.Proofs.YtmecbppblbmchaaGreatDoor
open Go.ChangeShapes Go.WideShapes Go.ChangeAt Go.RowKit Go.Sort
set_option linter.unusedVariables false
set_option maxRecDepth 100000
attribute [local go_sem ↓] Go.wp_at_zero Go.wp_at_succ

structure Rw where
  t : Int
  r : Int
  v : Int
def rw0 : Rw := ⟨0, 0, 0⟩
def rAt (l : List Rw) (i : Nat) : Rw := l.getD i rw0
def cells3 (x : Rw) : List Value := [.int .i64 x.t, .int .i64 x.r, .int .i64 x.v]
def flat (l : List Rw) : List Value := l.flatMap cells3

theorem flat_length (l : List Rw) : (flat l).length = l.length * 3 := by
  induction l with
  | nil => rfl
  | cons x l ih => simp only [flat, List.flatMap_cons, List.length_append, List.length_cons] at *; rw [ih]; simp [cells3]; omega
theorem flat_snoc (l : List Rw) (x : Rw) : flat (l ++ [x]) = flat l ++ cells3 x := by simp [flat]
theorem flat_get : ∀ (l : List Rw) (i : Nat), i < l.length → (flat l)[i * 3]? = some (.int .i64 (rAt l i).t) ∧ (flat l)[i * 3 + 1]? = some (.int .i64 (rAt l i).r) ∧ (flat l)[i * 3 + 2]? = some (.int .i64 (rAt l i).v)
  | [], i, h => absurd h (Nat.not_lt_zero _)
  | x :: l, 0, h => by simp [flat, cells3, rAt]
  | x :: l, i + 1, h => by
    obtain ⟨h1, h2, h3⟩ := flat_get l i (by simpa using h)
    have e : flat (x :: l) = .int .i64 x.t :: .int .i64 x.r :: .int .i64 x.v :: flat l := by simp [flat, cells3]
    rw [e]
    refine ⟨?_, ?_, ?_⟩
    · rw [show (i + 1) * 3 = i * 3 + 1 + 1 + 1 by omega]; simpa [rAt] using h1
    · rw [show (i + 1) * 3 + 1 = i * 3 + 1 + 1 + 1 + 1 by omega]; simpa [rAt] using h2
    · rw [show (i + 1) * 3 + 2 = i * 3 + 2 + 1 + 1 + 1 by omega]; simpa [rAt] using h3

/-- The slice v holds the rows l, in a block of its own from base on. -/
def OwnR (base : Nat) (w : World) (v : Value) (l : List Rw) : Prop :=
  (v = .slice none 0 0 ∧ l = []) ∨ ∃ g cap f, v = .slice (some ⟨g, 0, none⟩) l.length cap ∧ base ≤ g ∧ RowOf w g 111 (l.length * 3) f ∧ ∀ i, i < l.length → f (i * 3) = .int .i64 (rAt l i).t ∧ f (i * 3 + 1) = .int .i64 (rAt l i).r ∧ f (i * 3 + 2) = .int .i64 (rAt l i).v

theorem OwnR.of_ownsRow {base : Nat} {w : World} {v : Value} {l : List Rw} (h : w.ownsRow base 111 3 v l.length (flat l)) : OwnR base w v l := by
  obtain ⟨h1, h2⟩ := h
  rcases h2 with ⟨rfl, h3⟩ | ⟨g, cap, cur, rfl, h4, h5, h6, h7, h8, h9⟩
  · exact .inl ⟨rfl, by simpa using h3⟩
  · have hget : ∀ j, j < l.length * 3 → cur[j]? = (flat l)[j]? := fun j hj => by
      rw [← h9, List.getElem?_take, if_pos hj]; simp
    refine .inr ⟨g, cap, fun j => ((flat l)[j]?).getD (.int .i64 0), rfl, h4, ⟨cur, h5, by rw [h8]; exact Nat.mul_le_mul_right 3 h6, fun j hj => ?_⟩, fun i hi => ?_⟩
    · rw [hget j hj]
      have : j < (flat l).length := by rw [flat_length]; exact hj
      simp [List.getElem?_eq_getElem this]
    · obtain ⟨g1, g2, g3⟩ := flat_get l i hi
      simp only [g1, g2, g3, Option.getD_some]
      exact ⟨trivial, trivial, trivial⟩

theorem OwnR.keep {base : Nat} {w w' : World} {v : Value} {l : List Rw} (h : OwnR base w v l) (hs : ∀ k, base ≤ k → k < w.heap.size → w'.heap[k]? = w.heap[k]?) : OwnR base w' v l := by
  rcases h with h | ⟨g, cap, f, h1, h2, h3, h4⟩
  · exact .inl h
  · exact .inr ⟨g, cap, f, h1, h2, h3.of_block (hs g h2 h3.lt), h4⟩
theorem OwnR.stays {base : Nat} {w w' : World} {v : Value} {l : List Rw} (h : OwnR base w v l) (hb : Below w.heap.size w w') : OwnR base w' v l := h.keep fun k _ hk => hb.block k hk

end Go.Proofs.YtmecbppblbmchaaGreatDoor

/- Rows in memory. -/
namespace Go.Proofs.YtmecbppblbmchaaGreatDoor
open Go.ChangeShapes Go.WideShapes Go.ChangeAt Go.RowKit Go.Sort
set_option linter.unusedVariables false
set_option maxRecDepth 100000

/-- The slice v holds the rows l. -/
def RowsAt (lo hi : Nat) (w : World) (v : Value) (l : List Rw) : Prop :=
  ∃ a cap, v = .slice a l.length cap ∧ l.length ≤ maxLen ∧ (0 < l.length → ∃ b off, a = some ⟨b, off, none⟩ ∧ lo ≤ b ∧ b < hi ∧
    ∀ i, i < l.length → w.cell? ⟨b, off + i * 3, none⟩ = some (.int .i64 (rAt l i).t) ∧ w.cell? ⟨b, off + i * 3 + 1, none⟩ = some (.int .i64 (rAt l i).r) ∧ w.cell? ⟨b, off + i * 3 + 2, none⟩ = some (.int .i64 (rAt l i).v))

theorem RowsAt.keep {lo hi : Nat} {w w' : World} {v : Value} {l : List Rw} (h : RowsAt lo hi w v l) (hs : ∀ b, lo ≤ b → b < hi → b < w.heap.size → w'.heap[b]? = w.heap[b]?) : RowsAt lo hi w' v l := by
  obtain ⟨a, cap, h1, h2, h3⟩ := h
  refine ⟨a, cap, h1, h2, fun hp => ?_⟩
  obtain ⟨b, off, ha, hl, hh, hc⟩ := h3 hp
  refine ⟨b, off, ha, hl, hh, fun i hi => ?_⟩
  obtain ⟨c0, c1, c2⟩ := hc i hi
  have e := hs b hl hh (cell_lt c0)
  exact ⟨cell_same e c0, cell_same e c1, cell_same e c2⟩
theorem RowsAt.stays {lo hi : Nat} {w w' : World} {v : Value} {l : List Rw} (h : RowsAt lo hi w v l) (hb : Below w.heap.size w w') : RowsAt lo hi w' v l := h.keep fun b _ _ hlt => hb.block b hlt
theorem RowsAt.wide {lo hi lo' hi' : Nat} {w : World} {v : Value} {l : List Rw} (h : RowsAt lo hi w v l) (hl : lo' ≤ lo) (hh : hi ≤ hi') : RowsAt lo' hi' w v l := by
  obtain ⟨a, cap, h1, h2, h3⟩ := h
  refine ⟨a, cap, h1, h2, fun hp => ?_⟩
  obtain ⟨b, off, ha, hl', hh', hc⟩ := h3 hp
  exact ⟨b, off, ha, by omega, by omega, hc⟩

def WfRw (l : List Rw) : Prop := ∀ i, i < l.length → wf (rAt l i).t ∧ wf (rAt l i).r

end Go.Proofs.YtmecbppblbmchaaGreatDoor

/- Where a key stands in rows: the program's findRow. -/
namespace Go.Proofs.YtmecbppblbmchaaGreatDoor
open Go.ChangeShapes Go.WideShapes Go.ChangeAt Go.RowKit Go.Sort
set_option linter.unusedVariables false
set_option maxRecDepth 100000
attribute [local go_sem ↓] Go.wp_at_zero Go.wp_at_succ

/-- What compareKeys says. -/
def ckI (a b c d : Int) : Int := if klB a b c d = true then -1 else if klB c d a b = true then 1 else 0
theorem ckI_neg {a b c d : Int} : ckI a b c d < 0 ↔ klB a b c d = true := by
  unfold ckI
  by_cases h1 : klB a b c d = true
  · simp [h1]
  · by_cases h2 : klB c d a b = true <;> simp [h1, h2]
theorem ckI_zero {a b c d : Int} : ckI a b c d = 0 ↔ (a = c ∧ b = d) := by
  unfold ckI
  by_cases h1 : klB a b c d = true
  · simp [h1]; rw [klB_iff] at h1; omega
  · by_cases h2 : klB c d a b = true
    · simp [h1, h2]; rw [klB_iff] at h2; omega
    · simp [h1, h2]; rw [klB_iff] at h1 h2; omega

theorem compareKeys_any (a b c d : Int) (w : World) :
    Calls Tryz.prog 123 #[.agg #[.int .i64 a, .int .i64 b], .agg #[.int .i64 c, .int .i64 d]] w fun e w' => e = .returned (.int .i64 (ckI a b c d)) ∧ Below w.heap.size w w' := by
  obtain ⟨k1, hk1⟩ : ∃ k1, klB a b c d = k1 := ⟨_, rfl⟩
  obtain ⟨k2, hk2⟩ : ∃ k2, klB c d a b = k2 := ⟨_, rfl⟩
  have hcf : ckI a b c d = if k1 = true then -1 else if k2 = true then 1 else 0 := by simp only [ckI, hk1, hk2]
  rw [hcf]
  clear hcf
  have b0 : Below w.heap.size w ((w.alloc (Obj.cells #[Value.int IntKind.i64 a, Value.int IntKind.i64 b] 46)).alloc (Obj.cells #[Value.int IntKind.i64 c, Value.int IntKind.i64 d] 46)) := ((Below.refl _ _).alloc (Nat.le_refl _) _).alloc (by simp) _
  have x0 : ((w.alloc (Obj.cells #[Value.int IntKind.i64 a, Value.int IntKind.i64 b] 46)).alloc (Obj.cells #[Value.int IntKind.i64 c, Value.int IntKind.i64 d] 46)).cell? ⟨w.heap.size, 0, none⟩ = some (.int .i64 a) := by simp [go_sem]
  have x1 : ((w.alloc (Obj.cells #[Value.int IntKind.i64 a, Value.int IntKind.i64 b] 46)).alloc (Obj.cells #[Value.int IntKind.i64 c, Value.int IntKind.i64 d] 46)).cell? ⟨w.heap.size, 1, none⟩ = some (.int .i64 b) := by simp [go_sem]
  have x2 : ((w.alloc (Obj.cells #[Value.int IntKind.i64 a, Value.int IntKind.i64 b] 46)).alloc (Obj.cells #[Value.int IntKind.i64 c, Value.int IntKind.i64 d] 46)).cell? ⟨w.heap.size + 1, 0, none⟩ = some (.int .i64 c) := by simp [go_sem]
  have x3 : ((w.alloc (Obj.cells #[Value.int IntKind.i64 a, Value.int IntKind.i64 b] 46)).alloc (Obj.cells #[Value.int IntKind.i64 c, Value.int IntKind.i64 d] 46)).cell? ⟨w.heap.size + 1, 1, none⟩ = some (.int .i64 d) := by simp [go_sem]
  go_enter Tryz.func123, Tryz.ntmps123
  go_wp2_with fail
  generalize (w.alloc (Obj.cells #[Value.int IntKind.i64 a, Value.int IntKind.i64 b] 46)).alloc (Obj.cells #[Value.int IntKind.i64 c, Value.int IntKind.i64 d] 46) = W at *
  refine (implKeyLess_any _ _ _ _ _).mono ?_
  rw [hk1]
  rintro e w1 ⟨rfl, hb1⟩
  have y0 := cell_stays hb1 x0
  have y1 := cell_stays hb1 x1
  have y2 := cell_stays hb1 x2
  have y3 := cell_stays hb1 x3
  have b1 := b0.trans (hb1.mono b0.size)
  clear x0 x1 x2 x3 hb1 b0
  cases k1
  · go_wp2_with fail
    refine (implKeyLess_any _ _ _ _ _).mono ?_
    rw [hk2]
    rintro e w2 ⟨rfl, hb2⟩
    have b2 := b1.trans (hb2.mono b1.size)
    cases k2
    · go_wp2
      go_ret
      exact ⟨rfl, b2⟩
    · go_wp2
      go_ret
      exact ⟨rfl, b2⟩
  · go_wp2
    go_ret
    exact ⟨rfl, b1⟩

theorem findCmp_any (x : Rw) (c d : Int) (w : World) :
    Calls Tryz.prog 122 #[.agg #[.int .i64 x.t, .int .i64 x.r, .int .i64 x.v], .agg #[.int .i64 c, .int .i64 d]] w fun e w' => e = .returned (.int .i64 (ckI x.t x.r c d)) ∧ Below w.heap.size w w' := by
  have b0 : Below w.heap.size w ((w.alloc (Obj.cells #[.int .i64 x.t, .int .i64 x.r, .int .i64 x.v] 111)).alloc (Obj.cells #[Value.int IntKind.i64 c, Value.int IntKind.i64 d] 46)) := ((Below.refl _ _).alloc (Nat.le_refl _) _).alloc (by simp) _
  go_enter Tryz.func122, Tryz.ntmps122
  go_wp2_with fail
  refine (compareKeys_any _ _ _ _ _).mono ?_
  rintro e w1 ⟨rfl, hb1⟩
  go_wp2
  go_ret
  exact ⟨rfl, b0.trans (hb1.mono b0.size)⟩

/-- Each key is ahead of the next ones. -/
def RowsUp (l : List Rw) : Prop := ∀ i j, i < j → j < l.length → klB (rAt l i).t (rAt l i).r (rAt l j).t (rAt l j).r = true
/-- So many keys are ahead of (t, r). -/
def LowK (l : List Rw) (t r : Int) (i : Nat) : Prop := i ≤ l.length ∧ (∀ j, j < i → klB (rAt l j).t (rAt l j).r t r = true) ∧ ∀ j, i ≤ j → j < l.length → klB (rAt l j).t (rAt l j).r t r = false
/-- Row i is of the key (t, r). -/
def AtK (l : List Rw) (t r : Int) (i : Nat) : Prop := i < l.length ∧ (rAt l i).t = t ∧ (rAt l i).r = r
instance (l : List Rw) (t r : Int) (i : Nat) : Decidable (AtK l t r i) := by unfold AtK; infer_instance

set_option maxHeartbeats 4000000 in
theorem search_any (v : Value) (l : List Rw) (t r : Int) (w : World) {lo hi : Nat} (h : RowsAt lo hi w v l) (hu : RowsUp l) (hn : l.length ≤ 1048580) :
    Calls Tryz.prog 121 #[v, .agg #[.int .i64 t, .int .i64 r], .func (.func 122) #[] #[]] w fun e w' => (∃ i : Nat, LowK l t r i ∧ e = .returned (.tuple #[.int .i64 (i : Int), .bool (decide (AtK l t r i))])) ∧ Below w.heap.size w w' := by
  obtain ⟨a, cap, rfl, hm, hc⟩ := h
  clear hm
  have HU : Hid (RowsUp l) := hu
  clear hu
  have b0 : Below w.heap.size w (w.alloc (Obj.cells #[Value.int IntKind.i64 t, Value.int IntKind.i64 r] 46)) := (Below.refl _ _).alloc (Nat.le_refl _) _
  have x0 : (w.alloc (Obj.cells #[Value.int IntKind.i64 t, Value.int IntKind.i64 r] 46)).cell? ⟨w.heap.size, 0, none⟩ = some (.int .i64 t) := by simp [go_sem]
  have x1 : (w.alloc (Obj.cells #[Value.int IntKind.i64 t, Value.int IntKind.i64 r] 46)).cell? ⟨w.heap.size, 1, none⟩ = some (.int .i64 r) := by simp [go_sem]
  go_enter Tryz.func121, Tryz.ntmps121
  go_wp2
  generalize w.alloc (Obj.cells #[Value.int IntKind.i64 t, Value.int IntKind.i64 r] 46) = WA at *
  go_loopw [9, 10] (fun s9 s10 wr => ∃ lo hi : Nat, s9 = .int .i64 lo ∧ s10 = .int .i64 hi ∧ lo ≤ hi ∧ hi ≤ l.length ∧ Below WA.heap.size WA wr ∧ Hid ((∀ j, j < lo → klB (rAt l j).t (rAt l j).r t r = true) ∧ ∀ j, hi ≤ j → j < l.length → klB (rAt l j).t (rAt l j).r t r = false))
    (fun s9 s10 _ => (intOf s10).toNat - (intOf s9).toNat)
  case atStart => exact ⟨0, l.length, rfl, rfl, Nat.zero_le _, Nat.le_refl _, Below.refl _ _, ⟨fun j hj => absurd hj (Nat.not_lt_zero _), fun j h1 h2 => by omega⟩⟩
  case round =>
    rename World => wo
    obtain ⟨p, q, rfl, rfl, hpq, hq, hb, HI⟩ := hrel
    have y0 := cell_stays hb x0
    have y1 := cell_stays hb x1
    have bO := b0.trans (hb.mono b0.size)
    clear x0 x1 b0
    by_cases hlt : p < q
    · obtain ⟨b, off, rfl, _, _, hcc⟩ := hc (by omega)
      obtain ⟨m, hmid⟩ : ∃ m, (p + q) / 2 = m := ⟨_, rfl⟩
      obtain ⟨z0, z1, z2⟩ := hcc m (by omega)
      replace z0 := cell_stays bO z0
      replace z1 := cell_stays bO z1
      replace z2 := cell_stays bO z2
      clear hcc hc
      have em : ((p : Int) + (q : Int)) / 2 = (m : Int) := by omega
      have m0 : (0 : Int) ≤ (m : Int) := by omega
      have m1 : (m : Int) < (l.length : Int) := by omega
      have hmp : p ≤ m := by omega
      have hmq : m < q := by omega
      clear hmid
      obtain ⟨ck, hck⟩ : ∃ ck, ckI (rAt l m).t (rAt l m).r t r = ck := ⟨_, rfl⟩
      have kz0 := cell_regrown z0
      have kz1 := cell_regrown z1
      have kz2 := cell_regrown z2
      have ky0 := cell_regrown y0
      have ky1 := cell_regrown y1
      have HC := fun W => findCmp_any (rAt l m) t r W
      simp only [hck] at HC
      by_cases hneg : ck < 0
      · have HI2 : Hid ((∀ j, j < m + 1 → klB (rAt l j).t (rAt l j).r t r = true) ∧ ∀ j, q ≤ j → j < l.length → klB (rAt l j).t (rAt l j).r t r = false) := by
          refine ⟨fun j hj => ?_, HI.out.2⟩
          have hm' : klB (rAt l m).t (rAt l m).r t r = true := ckI_neg.1 (by rw [hck]; exact hneg)
          by_cases e : j = m
          · subst e; exact hm'
          · exact klB_trans (HU.out j m (by omega) (by omega)) hm'
        clear HI hck z0 z1 z2 y0 y1
        go_wp2_with fail
        refine wp_region_quiet_below (by kernel_rfl) (by kernel_rfl) ?_
        repeat (go_big_quiet_step (first | (go_at_call 122; exact Calls.regrown_of (HC _))))
        refine wpQuiet_nil ?_
        intro w2 hw2
        obtain ⟨⟨dq, osq⟩, hw3⟩ := hw2
        have hb2 : Below _ _ w2 := hw3 ▸ below_regrown _ dq osq
        clear hw3 kz0 kz1 kz2 ky0 ky1
        go_wp2
        go_roundw
        case rel => exact ⟨m + 1, q, by go_num, rfl, by omega, hq, hb.trans (hb2.mono hb.size), HI2⟩
        case measure => simp [intOf]; omega
      · have HI2 : Hid ((∀ j, j < p → klB (rAt l j).t (rAt l j).r t r = true) ∧ ∀ j, m ≤ j → j < l.length → klB (rAt l j).t (rAt l j).r t r = false) := by
          refine ⟨HI.out.1, fun j hj hjl => ?_⟩
          have hm' : klB (rAt l m).t (rAt l m).r t r = false := by
            cases hk : klB (rAt l m).t (rAt l m).r t r with
            | false => rfl
            | true => exact absurd (by rw [← hck]; exact ckI_neg.2 hk) hneg
          by_cases e : j = m
          · subst e; exact hm'
          · cases hk : klB (rAt l j).t (rAt l j).r t r with
            | false => rfl
            | true => rw [klB_trans (HU.out m j (by omega) hjl) hk] at hm'; exact absurd hm' (by decide)
        clear HI hck z0 z1 z2 y0 y1
        go_wp2_with fail
        refine wp_region_quiet_below (by kernel_rfl) (by kernel_rfl) ?_
        repeat (go_big_quiet_step (first | (go_at_call 122; exact Calls.regrown_of (HC _))))
        refine wpQuiet_nil ?_
        intro w2 hw2
        obtain ⟨⟨dq, osq⟩, hw3⟩ := hw2
        have hb2 : Below _ _ w2 := hw3 ▸ below_regrown _ dq osq
        clear hw3 kz0 kz1 kz2 ky0 ky1
        go_wp2
        go_roundw
        case rel => exact ⟨p, m, rfl, rfl, by omega, by omega, hb.trans (hb2.mono hb.size), HI2⟩
        case measure => simp [intOf]; omega
    · obtain rfl : q = p := by omega
      have HL : Hid (LowK l t r q) := ⟨hq, HI.out.1, HI.out.2⟩
      obtain ⟨A, hA⟩ : ∃ A, decide (AtK l t r q) = A := ⟨_, rfl⟩
      have HE : Hid (A = decide (AtK l t r q)) := hA.symm
      by_cases hql : q < l.length
      · obtain ⟨b, off, rfl, _, _, hcc⟩ := hc (by omega)
        obtain ⟨z0, z1, z2⟩ := hcc q hql
        replace z0 := cell_stays bO z0
        replace z1 := cell_stays bO z1
        replace z2 := cell_stays bO z2
        clear hcc hc
        have m0 : (0 : Int) ≤ (q : Int) := by omega
        have m1 : (q : Int) < (l.length : Int) := by omega
        obtain ⟨ck, hck⟩ : ∃ ck, ckI (rAt l q).t (rAt l q).r t r = ck := ⟨_, rfl⟩
        have HA : Hid (A = (ck == 0)) := by
          show _ = _
          rw [← hA, ← hck, Bool.eq_iff_iff, decide_eq_true_iff, beq_iff_eq, ckI_zero]
          exact ⟨fun h => h.2, fun h => ⟨hql, h⟩⟩
        have kz0 := cell_regrown z0
        have kz1 := cell_regrown z1
        have kz2 := cell_regrown z2
        have ky0 := cell_regrown y0
        have ky1 := cell_regrown y1
        have HC := fun W => findCmp_any (rAt l q) t r W
        simp only [hck] at HC
        clear HI hck z0 z1 z2 y0 y1 hA
        go_wp2_with fail
        refine wp_region_quiet_below (by kernel_rfl) (by kernel_rfl) ?_
        repeat (go_big_quiet_step (first | (go_at_call 122; exact Calls.regrown_of (HC _))))
        refine wpQuiet_nil ?_
        intro w2 hw2
        obtain ⟨⟨dq, osq⟩, hw3⟩ := hw2
        have hb2 : Below _ _ w2 := hw3 ▸ below_regrown _ dq osq
        clear hw3 kz0 kz1 kz2 ky0 ky1
        go_wp2
        go_ret2
        exact ⟨⟨q, HL.out, by rw [← HE.out, HA.out]; rfl⟩, bO.trans (hb2.mono bO.size)⟩
      · have HA : Hid (A = false) := by
          show _ = _
          rw [← hA, decide_eq_false_iff_not]
          exact fun h => hql h.1
        clear HI hA hc
        go_wp2_with fail
        refine wp_region_quiet_below (by kernel_rfl) (by kernel_rfl) ?_
        repeat (go_big_quiet_step (fail))
        refine wpQuiet_nil ?_
        intro w2 hw2
        obtain ⟨⟨dq, osq⟩, hw3⟩ := hw2
        have hb2 : Below _ _ w2 := hw3 ▸ below_regrown _ dq osq
        clear hw3
        go_wp2
        go_ret2
        exact ⟨⟨q, HL.out, by rw [← HE.out, HA.out]; rfl⟩, bO.trans (hb2.mono bO.size)⟩

theorem findRow_any (v : Value) (l : List Rw) (t r : Int) (w : World) {lo hi : Nat} (h : RowsAt lo hi w v l) (hu : RowsUp l) (hn : l.length ≤ 1048580) :
    Calls Tryz.prog 83 #[v, .agg #[.int .i64 t, .int .i64 r]] w fun e w' => (∃ i : Nat, LowK l t r i ∧ e = .returned (.tuple #[.int .i64 (i : Int), .bool (decide (AtK l t r i))])) ∧ Below w.heap.size w w' := by
  obtain ⟨a, cap, hv⟩ : ∃ a cap, v = .slice a l.length cap := by obtain ⟨a, cap, h1, _⟩ := h; exact ⟨a, cap, h1⟩
  subst hv
  have b0 : Below w.heap.size w (w.alloc (Obj.cells #[Value.int IntKind.i64 t, Value.int IntKind.i64 r] 46)) := (Below.refl _ _).alloc (Nat.le_refl _) _
  go_enter Tryz.func83, Tryz.ntmps83
  go_wp2_with fail
  refine (search_any _ l t r _ (h.stays b0) hu hn).mono ?_
  rintro e w1 ⟨⟨i, hL, rfl⟩, hb1⟩
  obtain ⟨A, hA⟩ : ∃ A, decide (AtK l t r i) = A := ⟨_, rfl⟩
  have HL : Hid (LowK l t r i) := hL
  have HA : Hid (A = decide (AtK l t r i)) := hA.symm
  rw [hA]
  clear hL hA
  go_wp2
  go_ret2
  exact ⟨⟨i, HL.out, by rw [← HA.out]; rfl⟩, b0.trans (hb1.mono b0.size)⟩
end Go.Proofs.YtmecbppblbmchaaGreatDoor

/- The plain data of the whole: transactions, events, a state; lists of them in memory, and lists that a call owns. -/
namespace Go.Proofs.YtmecbppblbmchaaGreatDoor
open Go.ChangeShapes Go.WideShapes Go.ChangeAt Go.RowKit Go.Sort
set_option linter.unusedVariables false
set_option maxRecDepth 100000

structure Td where
  i : Int
  s : Int
  w : List Rw
structure Ed where
  k : Int
  x : Int
  t : Int
  r : Int
  v : Int
  a : Int
structure Md where
  s : List Ch
  c : Int
  n : Int
  x : List Td
  h : List Ed

def td0 : Td := ⟨0, 0, []⟩
def ed0 : Ed := ⟨0, 0, 0, 0, 0, 0⟩
def tAt (l : List Td) (i : Nat) : Td := l.getD i td0
def eAt (l : List Ed) (i : Nat) : Ed := l.getD i ed0

/-- The slice v holds the events l. -/
def EvsAt (lo hi : Nat) (w : World) (v : Value) (l : List Ed) : Prop :=
  ∃ a cap, v = .slice a l.length cap ∧ l.length ≤ maxLen ∧ (0 < l.length → ∃ b off, a = some ⟨b, off, none⟩ ∧ lo ≤ b ∧ b < hi ∧
    ∀ i, i < l.length → w.cell? ⟨b, off + i * 6, none⟩ = some (.int .i64 (eAt l i).k) ∧ w.cell? ⟨b, off + i * 6 + 1, none⟩ = some (.int .i64 (eAt l i).x) ∧ w.cell? ⟨b, off + i * 6 + 2, none⟩ = some (.int .i64 (eAt l i).t) ∧ w.cell? ⟨b, off + i * 6 + 3, none⟩ = some (.int .i64 (eAt l i).r) ∧ w.cell? ⟨b, off + i * 6 + 4, none⟩ = some (.int .i64 (eAt l i).v) ∧ w.cell? ⟨b, off + i * 6 + 5, none⟩ = some (.int .i64 (eAt l i).a))

/-- The slice v holds the transactions l. -/
def TxsAt (lo hi : Nat) (w : World) (v : Value) (l : List Td) : Prop :=
  ∃ a cap, v = .slice a l.length cap ∧ l.length ≤ maxLen ∧ (0 < l.length → ∃ b off, a = some ⟨b, off, none⟩ ∧ lo ≤ b ∧ b < hi ∧
    ∀ i, i < l.length → w.cell? ⟨b, off + i * 3, none⟩ = some (.int .i64 (tAt l i).i) ∧ w.cell? ⟨b, off + i * 3 + 1, none⟩ = some (.int .i64 (tAt l i).s) ∧
      ∃ a c, w.cell? ⟨b, off + i * 3 + 2, none⟩ = some (.slice a (tAt l i).w.length c) ∧ RowsAt lo hi w (.slice a (tAt l i).w.length c) (tAt l i).w)

theorem EvsAt.keep {lo hi : Nat} {w w' : World} {v : Value} {l : List Ed} (h : EvsAt lo hi w v l) (hs : ∀ b, lo ≤ b → b < hi → b < w.heap.size → w'.heap[b]? = w.heap[b]?) : EvsAt lo hi w' v l := by
  obtain ⟨a, cap, h1, h2, h3⟩ := h
  refine ⟨a, cap, h1, h2, fun hp => ?_⟩
  obtain ⟨b, off, ha, hl, hh, hc⟩ := h3 hp
  refine ⟨b, off, ha, hl, hh, fun i hi => ?_⟩
  obtain ⟨c0, c1, c2, c3, c4, c5⟩ := hc i hi
  have e := hs b hl hh (cell_lt c0)
  exact ⟨cell_same e c0, cell_same e c1, cell_same e c2, cell_same e c3, cell_same e c4, cell_same e c5⟩
theorem EvsAt.stays {lo hi : Nat} {w w' : World} {v : Value} {l : List Ed} (h : EvsAt lo hi w v l) (hb : Below w.heap.size w w') : EvsAt lo hi w' v l := h.keep fun b _ _ hlt => hb.block b hlt
theorem EvsAt.wide {lo hi lo' hi' : Nat} {w : World} {v : Value} {l : List Ed} (h : EvsAt lo hi w v l) (hl : lo' ≤ lo) (hh : hi ≤ hi') : EvsAt lo' hi' w v l := by
  obtain ⟨a, cap, h1, h2, h3⟩ := h
  refine ⟨a, cap, h1, h2, fun hp => ?_⟩
  obtain ⟨b, off, ha, hl', hh', hc⟩ := h3 hp
  exact ⟨b, off, ha, by omega, by omega, hc⟩

theorem TxsAt.keep {lo hi : Nat} {w w' : World} {v : Value} {l : List Td} (h : TxsAt lo hi w v l) (hs : ∀ b, lo ≤ b → b < hi → b < w.heap.size → w'.heap[b]? = w.heap[b]?) : TxsAt lo hi w' v l := by
  obtain ⟨a, cap, h1, h2, h3⟩ := h
  refine ⟨a, cap, h1, h2, fun hp => ?_⟩
  obtain ⟨b, off, ha, hl, hh, hc⟩ := h3 hp
  refine ⟨b, off, ha, hl, hh, fun i hi => ?_⟩
  obtain ⟨c1, c2, a', c', c3, c4⟩ := hc i hi
  have e := hs b hl hh (cell_lt c1)
  exact ⟨cell_same e c1, cell_same e c2, a', c', cell_same e c3, c4.keep hs⟩
theorem TxsAt.stays {lo hi : Nat} {w w' : World} {v : Value} {l : List Td} (h : TxsAt lo hi w v l) (hb : Below w.heap.size w w') : TxsAt lo hi w' v l := h.keep fun b _ _ hlt => hb.block b hlt
theorem TxsAt.wide {lo hi lo' hi' : Nat} {w : World} {v : Value} {l : List Td} (h : TxsAt lo hi w v l) (hl : lo' ≤ lo) (hh : hi ≤ hi') : TxsAt lo' hi' w v l := by
  obtain ⟨a, cap, h1, h2, h3⟩ := h
  refine ⟨a, cap, h1, h2, fun hp => ?_⟩
  obtain ⟨b, off, ha, hl', hh', hc⟩ := h3 hp
  refine ⟨b, off, ha, by omega, by omega, fun i hi => ?_⟩
  obtain ⟨c1, c2, a', c', c3, c4⟩ := hc i hi
  exact ⟨c1, c2, a', c', c3, c4.wide hl hh⟩

def WfM (m : Md) : Prop := WfCh m.s ∧ ∀ i, i < m.x.length → WfRw (tAt m.x i).w

/-- The three lists of a state. -/
structure MAt (lo hi : Nat) (w : World) (vs vt ve : Value) (m : Md) : Prop where
  s : ChainsAt lo hi w vs m.s
  x : TxsAt lo hi w vt m.x
  h : EvsAt lo hi w ve m.h
theorem MAt.stays {lo hi : Nat} {w w' : World} {vs vt ve : Value} {m : Md} (h : MAt lo hi w vs vt ve m) (hb : Below w.heap.size w w') : MAt lo hi w' vs vt ve m := ⟨h.s.stays hb, h.x.stays hb, h.h.stays hb⟩

structure SmallM (m : Md) : Prop where
  s : Small m.s
  x : m.x.length ≤ 1048576
  w : ∀ i, i < m.x.length → (tAt m.x i).w.length ≤ 1048576
  h : m.h.length ≤ 1048576

/-- The rows l lie in block b. -/
def OwnW (w : World) (b : Nat) (l : List Rw) : Prop := ∃ f, RowOf w b 111 (l.length * 3) f ∧ ∀ i, i < l.length → f (i * 3) = .int .i64 (rAt l i).t ∧ f (i * 3 + 1) = .int .i64 (rAt l i).r ∧ f (i * 3 + 2) = .int .i64 (rAt l i).v
/-- The events l lie in block b. -/
def OwnE (w : World) (b : Nat) (l : List Ed) : Prop := ∃ f, RowOf w b 101 (l.length * 6) f ∧ ∀ i, i < l.length → f (i * 6) = .int .i64 (eAt l i).k ∧ f (i * 6 + 1) = .int .i64 (eAt l i).x ∧ f (i * 6 + 2) = .int .i64 (eAt l i).t ∧ f (i * 6 + 3) = .int .i64 (eAt l i).r ∧ f (i * 6 + 4) = .int .i64 (eAt l i).v ∧ f (i * 6 + 5) = .int .i64 (eAt l i).a

theorem OwnW.of_block {w w' : World} {b : Nat} {l : List Rw} (h : OwnW w b l) (e : w'.heap[b]? = w.heap[b]?) : OwnW w' b l := by
  obtain ⟨f, h1, h2⟩ := h
  exact ⟨f, h1.of_block e, h2⟩
theorem OwnW.lt {w : World} {b : Nat} {l : List Rw} (h : OwnW w b l) : b < w.heap.size := by
  obtain ⟨f, h1, _⟩ := h
  exact h1.lt
theorem OwnE.of_block {w w' : World} {b : Nat} {l : List Ed} (h : OwnE w b l) (e : w'.heap[b]? = w.heap[b]?) : OwnE w' b l := by
  obtain ⟨f, h1, h2⟩ := h
  exact ⟨f, h1.of_block e, h2⟩
theorem OwnE.lt {w : World} {b : Nat} {l : List Ed} (h : OwnE w b l) : b < w.heap.size := by
  obtain ⟨f, h1, _⟩ := h
  exact h1.lt
theorem OwnW.rows {w : World} {b lo hi c : Nat} {l : List Rw} (h : OwnW w b l) (hlo : lo ≤ b) (hhi : b < hi) (hm : l.length ≤ 1048576) : RowsAt lo hi w (.slice (some ⟨b, 0, none⟩) l.length c) l := by
  obtain ⟨f, h1, h2⟩ := h
  refine ⟨_, _, rfl, by unfold maxLen; omega, fun hp => ⟨b, 0, rfl, hlo, hhi, fun i hi => ?_⟩⟩
  have g1 := h1.cell (show i * 3 < l.length * 3 by omega)
  have g2 := h1.cell (show i * 3 + 1 < l.length * 3 by omega)
  have g3 := h1.cell (show i * 3 + 2 < l.length * 3 by omega)
  rw [(h2 i hi).1] at g1
  rw [(h2 i hi).2.1] at g2
  rw [(h2 i hi).2.2] at g3
  exact ⟨by simpa using g1, by simpa using g2, by simpa using g3⟩
theorem OwnE.evs {w : World} {b lo hi c : Nat} {l : List Ed} (h : OwnE w b l) (hlo : lo ≤ b) (hhi : b < hi) (hm : l.length ≤ 1048576) : EvsAt lo hi w (.slice (some ⟨b, 0, none⟩) l.length c) l := by
  obtain ⟨f, h1, h2⟩ := h
  refine ⟨_, _, rfl, by unfold maxLen; omega, fun hp => ⟨b, 0, rfl, hlo, hhi, fun i hi => ?_⟩⟩
  obtain ⟨e0, e1, e2, e3, e4, e5⟩ := h2 i hi
  have g0 := h1.cell (show i * 6 < l.length * 6 by omega)
  have g1 := h1.cell (show i * 6 + 1 < l.length * 6 by omega)
  have g2 := h1.cell (show i * 6 + 2 < l.length * 6 by omega)
  have g3 := h1.cell (show i * 6 + 3 < l.length * 6 by omega)
  have g4 := h1.cell (show i * 6 + 4 < l.length * 6 by omega)
  have g5 := h1.cell (show i * 6 + 5 < l.length * 6 by omega)
  rw [e0] at g0
  rw [e1] at g1
  rw [e2] at g2
  rw [e3] at g3
  rw [e4] at g4
  rw [e5] at g5
  exact ⟨by simpa using g0, by simpa using g1, by simpa using g2, by simpa using g3, by simpa using g4, by simpa using g5⟩

/-- The transactions l, owned: the outer row in block b, the i-th list in block Bs i, all of them apart. -/
def OwnT2 (lo hi : Nat) (w : World) (b : Nat) (Bs : Nat → Nat) (l : List Td) : Prop :=
  lo ≤ b ∧ b < hi ∧ ∃ f, RowOf w b 97 (l.length * 3) f ∧
    (∀ i, i < l.length → f (i * 3) = .int .i64 (tAt l i).i ∧ f (i * 3 + 1) = .int .i64 (tAt l i).s ∧ (∃ c, (tAt l i).w.length ≤ c ∧ f (i * 3 + 2) = .slice (some ⟨Bs i, 0, none⟩) (tAt l i).w.length c) ∧ OwnW w (Bs i) (tAt l i).w ∧ lo ≤ Bs i ∧ Bs i < hi ∧ Bs i ≠ b) ∧
    ∀ i j, i < j → j < l.length → Bs i ≠ Bs j

theorem OwnT2.keep {lo hi : Nat} {w w' : World} {b : Nat} {Bs : Nat → Nat} {l : List Td} (h : OwnT2 lo hi w b Bs l) (hs : ∀ k, lo ≤ k → k < hi → k < w.heap.size → w'.heap[k]? = w.heap[k]?) : OwnT2 lo hi w' b Bs l := by
  obtain ⟨h1, h2, f, h3, h4, h5⟩ := h
  refine ⟨h1, h2, f, h3.of_block (hs b h1 h2 h3.lt), fun i hi => ?_, h5⟩
  obtain ⟨g1, g2, g3, g4, g5, g6, g7⟩ := h4 i hi
  exact ⟨g1, g2, g3, g4.of_block (hs _ g5 g6 g4.lt), g5, g6, g7⟩
theorem OwnT2.stays {lo hi : Nat} {w w' : World} {b : Nat} {Bs : Nat → Nat} {l : List Td} (h : OwnT2 lo hi w b Bs l) (hb : Below w.heap.size w w') : OwnT2 lo hi w' b Bs l := h.keep fun k _ _ hlt => hb.block k hlt
theorem OwnT2.wide {lo hi lo' hi' : Nat} {w : World} {b : Nat} {Bs : Nat → Nat} {l : List Td} (h : OwnT2 lo hi w b Bs l) (hl : lo' ≤ lo) (hh : hi ≤ hi') : OwnT2 lo' hi' w b Bs l := by
  obtain ⟨h1, h2, f, h3, h4, h5⟩ := h
  refine ⟨by omega, by omega, f, h3, fun i hi => ?_, h5⟩
  obtain ⟨g1, g2, g3, g4, g5, g6, g7⟩ := h4 i hi
  exact ⟨g1, g2, g3, g4, by omega, by omega, g7⟩
theorem OwnT2.txs {lo hi : Nat} {w : World} {b c : Nat} {Bs : Nat → Nat} {l : List Td} (h : OwnT2 lo hi w b Bs l) (hn : l.length ≤ 1048576) (hw : ∀ i, i < l.length → (tAt l i).w.length ≤ 1048576) : TxsAt lo hi w (.slice (some ⟨b, 0, none⟩) l.length c) l := by
  obtain ⟨h1, h2, f, h3, h4, _⟩ := h
  refine ⟨_, _, rfl, by unfold maxLen; omega, fun hp => ⟨b, 0, rfl, h1, h2, fun i hi => ?_⟩⟩
  obtain ⟨g1, g2, ⟨ci, _, g3⟩, g4, g5, g6, g7⟩ := h4 i hi
  have e1 := h3.cell (show i * 3 < l.length * 3 by omega)
  have e2 := h3.cell (show i * 3 + 1 < l.length * 3 by omega)
  have e3 := h3.cell (show i * 3 + 2 < l.length * 3 by omega)
  rw [g1] at e1
  rw [g2] at e2
  rw [g3] at e3
  exact ⟨by simpa using e1, by simpa using e2, _, _, by simpa using e3, g4.rows g5 g6 (hw i hi)⟩

theorem seven_kept {w x y : World} {a1 a2 a3 a4 a5 a6 a7 a8 a9 aa ab ac : Addr} {v1 v2 v3 v4 v5 v6 v7 v8 v9 va vb vc : Value} (h : Below w.heap.size w x ∧ x.cell? a1 = some v1 ∧ x.cell? a2 = some v2 ∧ x.cell? a3 = some v3 ∧ x.cell? a4 = some v4 ∧ x.cell? a5 = some v5 ∧ x.cell? a6 = some v6 ∧ x.cell? a7 = some v7 ∧ x.cell? a8 = some v8 ∧ x.cell? a9 = some v9 ∧ x.cell? aa = some va ∧ x.cell? ab = some vb ∧ x.cell? ac = some vc) (hb : Below x.heap.size x y) :
    Below w.heap.size w y ∧ y.cell? a1 = some v1 ∧ y.cell? a2 = some v2 ∧ y.cell? a3 = some v3 ∧ y.cell? a4 = some v4 ∧ y.cell? a5 = some v5 ∧ y.cell? a6 = some v6 ∧ y.cell? a7 = some v7 ∧ y.cell? a8 = some v8 ∧ y.cell? a9 = some v9 ∧ y.cell? aa = some va ∧ y.cell? ab = some vb ∧ y.cell? ac = some vc := by
  obtain ⟨h0, h1, h2, h3, h4, h5, h6, h7, h8, h9, ha, hb', hc⟩ := h
  exact ⟨h0.trans (hb.mono h0.size), cell_stays hb h1, cell_stays hb h2, cell_stays hb h3, cell_stays hb h4, cell_stays hb h5, cell_stays hb h6, cell_stays hb h7, cell_stays hb h8, cell_stays hb h9, cell_stays hb ha, cell_stays hb hb', cell_stays hb hc⟩

end Go.Proofs.YtmecbppblbmchaaGreatDoor

/- The hour of a row's last version. -/
namespace Go.Proofs.YtmecbppblbmchaaGreatDoor
open Go.ChangeShapes Go.WideShapes Go.ChangeAt Go.RowKit Go.Sort Go.Maps
set_option linter.unusedVariables false
set_option maxRecDepth 100000
attribute [local go_sem ↓] Go.wp_at_zero Go.wp_at_succ

/-- The hour of the last version of the first chain of that key. -/
def IsLastAt (l : List Ch) (t r : Int) (x : Int) : Prop := (x = 0 ∧ ∀ i, i < l.length → ¬ km l i t r) ∨ ∃ n : Nat, n < l.length ∧ km l n t r ∧ (∀ i, i < n → ¬ km l i t r) ∧ x = (vAt (cAt l n).l ((cAt l n).l.length - 1)).1

theorem IsLastAt.one {l : List Ch} {t r x y : Int} (hx : IsLastAt l t r x) (hy : IsLastAt l t r y) : x = y := by
  rcases hx with ⟨rfl, h1⟩ | ⟨i, h1, h2, h3, h4⟩ <;> rcases hy with ⟨rfl, g1⟩ | ⟨j, g1, g2, g3, g4⟩
  · rfl
  · exact absurd g2 (h1 j g1)
  · exact absurd h2 (g1 i h1)
  · have e : i = j := by
      rcases Nat.lt_trichotomy i j with hlt | e | hlt
      · exact absurd h2 (g3 i hlt)
      · exact e
      · exact absurd g2 (h3 j hlt)
    subst e
    rw [h4, g4]

theorem l1last_any (v : Value) (l : List Ch) (t r : Int) (w : World) {lo hi : Nat} (hl : ChainsAt lo hi w v l) (hs : storeOk l) :
    Calls Tryz.prog 59 #[.agg #[v], .agg #[.int .i64 t, .int .i64 r]] w fun e w' => ∃ x, e = .returned (.int .i64 x) ∧ IsLastAt l t r x ∧ Below w.heap.size w w' := by
  have hl2 := hl
  obtain ⟨a, cap, hv, hm, hc⟩ := hl2
  subst hv
  unfold maxLen at hm
  have hbx : Below w.heap.size w ((w.alloc (Obj.cells #[Value.slice a l.length cap] 32)).alloc (Obj.cells #[.int .i64 t, .int .i64 r] 46)) := ((Below.refl _ _).alloc (Nat.le_refl _) _).alloc (by simp) _
  go_enter Tryz.func59, Tryz.ntmps59
  go_wp2_with fail
  refine (l1chain_any _ l t r _ (hl.stays hbx)).mono ?_
  rintro e w1 ⟨x, rfl, hx, hb1⟩
  have b1 := hbx.trans (hb1.mono hbx.size)
  have p0 : w1.cell? ⟨w.heap.size, 0, none⟩ = some (.slice a l.length cap) := cell_stays hb1 (by simp [go_sem])
  clear hb1 hbx
  rcases hx with ⟨rfl, hno⟩ | ⟨n, rfl, hn, hkm, hfirst⟩
  · clear hc
    go_wp2
    go_ret
    exact ⟨_, rfl, .inl ⟨rfl, hno⟩, b1⟩
  · obtain ⟨b, off, rfl, hlo, hhi, hcc⟩ := hc (by omega)
    obtain ⟨c0, c1, ca, cb, c2, c3⟩ := hcc n hn
    obtain ⟨a2, cap2, e2, hm2, hc2⟩ := c3
    injection e2 with e2a e2b e2c
    subst e2a e2c
    have hpos := (hs.2 n hn).2.2.1
    obtain ⟨b2, off2, rfl, _, _, hcc2⟩ := hc2 (by omega)
    have d0 := hcc2 ((cAt l n).l.length - 1) (by omega)
    have k0 := cell_regrown p0
    have k1 := cell_regrown (cell_stays b1 c2)
    have k2 := cell_regrown (cell_stays b1 d0.1)
    clear e2b hcc hc c0 c1 hc2 hcc2 d0 c2
    unfold maxLen at hm2
    have n0 : (0 : Int) ≤ (n : Int) := by omega
    have n1 : (n : Int) < (l.length : Int) := by omega
    have n2 : (1 : Int) ≤ ((cAt l n).l.length : Int) := by omega
    go_wp2_with fail
    refine wp_region_quiet_below (by kernel_rfl) (by kernel_rfl) ?_
    repeat (go_big_quiet_step (fail))
    refine wpQuiet_nil ?_
    intro w2 hw2
    obtain ⟨⟨dq, osq⟩, hw3⟩ := hw2
    have hb2 : Below _ _ w2 := hw3 ▸ below_regrown _ dq osq
    clear hw3
    go_wp2
    go_ret
    exact ⟨_, rfl, .inr ⟨n, hn, hkm, hfirst, rfl⟩, b1.trans (hb2.mono b1.size)⟩

/-- What LastAt answers. -/
def LAns (l : List Ch) (t r : Int) (x : Int) : Prop := (¬ (storeOk l ∧ tabB t = true) ∧ x = -1) ∨ ((storeOk l ∧ tabB t = true) ∧ IsLastAt l t r x)
theorem LAns.one {l : List Ch} {t r x y : Int} (hx : LAns l t r x) (hy : LAns l t r y) : x = y := by
  rcases hx with ⟨h1, rfl⟩ | ⟨h1, hx⟩ <;> rcases hy with ⟨g1, rfl⟩ | ⟨g1, hy⟩
  · rfl
  · exact absurd g1 h1
  · exact absurd h1 g1
  · exact hx.one hy

theorem field_at (x y : Int) (w : World) : (Instr.field 123 (.agg #[.int .i64 x, .int .i64 y]) 0).run Tryz.prog w = .ok (.int .i64 x) w := by kernel_rfl

end Go.Proofs.YtmecbppblbmchaaGreatDoor

/- The last version of a list, as the program reads it. -/
namespace Go.Proofs.YtmecbppblbmchaaGreatDoor
open Go.ChangeShapes Go.WideShapes Go.ChangeAt Go.RowKit Go.Sort
set_option linter.unusedVariables false
set_option maxRecDepth 100000

def lastH (l : List Vr) : Int := (vAt l (l.length - 1)).1
theorem verAt_last (v : Value) (l : List Vr) (w : World) {lo hi : Nat} (hl : VersAt lo hi w v l) (ho : versOk l) :
    Calls Tryz.prog 119 #[v, .int .i64 1000000] w fun e w' => e = .returned (.agg #[.int .i64 (lastH l), .int .i64 (vAt l (l.length - 1)).2]) ∧ Below w.heap.size w w' := by
  refine (verAt_any v l 1000000 w hl).mono ?_
  rintro e w' ⟨k, rfl, hk, hb⟩
  obtain ⟨h1, h2, h3⟩ := hk
  have e : k = l.length := by
    rcases Nat.lt_or_ge k l.length with hlt | hge
    · have := h3 hlt
      have := (ho.2.2 k hlt).2.1
      omega
    · omega
  subst e
  have hp := ho.1
  refine ⟨?_, hb⟩
  simp only [rdV, lastH]
  rw [if_neg (by omega)]


end Go.Proofs.YtmecbppblbmchaaGreatDoor
