import Derived.Test.YtmecbppblbmchaaGreatDoorRead
import Derived.Test.YtmecbppblbmchaaGreatDoorLastV
import Derived.Test.YtmecbppblbmchaaGreatDoorMOk
import Derived.Test.YtmecbppblbmchaaGreatDoorOk
import Derived.Laws.CopyRow
import Derived.Shelf.SlIter.Collect
import Derived.Deep.AppendLies
/- What is read, as a function. -/
namespace Go.Proofs.YtmecbppblbmchaaGreatDoor
open Go.ChangeShapes Go.WideShapes Go.ChangeAt Go.RowKit Go.Sort Go.Maps
set_option linter.unusedVariables false
set_option maxRecDepth 100000

theorem RAns.one' {l : List Ch} {t r h : Int} {p q : Int × Int} (hp : RAns l t r h p) (hq : RAns l t r h q) : p = q := by
  rcases hp with ⟨h1, rfl⟩ | ⟨h1, x, hx, rfl⟩ <;> rcases hq with ⟨g1, rfl⟩ | ⟨g1, y, hy, rfl⟩
  · rfl
  · exact absurd g1 h1
  · exact absurd h1 g1
  · rw [hx.one hy]

open Classical in
/-- The one thing of which P speaks. -/
noncomputable def oneP {α : Type} (d : α) (P : α → Prop) : α := if hx : ∃ p, P p then Classical.choose hx else d
theorem oneP_is {α : Type} {d : α} {P : α → Prop} (h1 : ∀ p q, P p → P q → p = q) {p : α} (hp : P p) : p = oneP d P := by
  have hx : ∃ p, P p := ⟨p, hp⟩
  unfold oneP
  rw [dif_pos hx]
  exact h1 _ _ hp (Classical.choose_spec hx)
noncomputable def readP (l : List Ch) (t r h : Int) : Int × Int := oneP (0, 0) (RAns l t r h)
theorem readP_is {l : List Ch} {t r h : Int} {p : Int × Int} (hp : RAns l t r h p) : p = readP l t r h := oneP_is (fun _ _ h1 h2 => h1.one' h2) hp
theorem readP_congr {l l' : List Ch} {t r h h' : Int} (H : ∀ p, RAns l t r h p ↔ RAns l' t r h' p) : readP l t r h = readP l' t r h' :=
  congrArg (oneP (0, 0)) (funext fun p => propext (H p))

theorem isLast_ex (l : List Vr) (h : Int) : ∀ q, ∃ x, IsLast l h q x
  | 0 => ⟨(0, 0), .inl ⟨rfl, fun j hj => absurd hj (Nat.not_lt_zero _)⟩⟩
  | q + 1 => by
    obtain ⟨x, hx⟩ := isLast_ex l h q
    by_cases e : (vAt l q).1 ≤ h
    · exact ⟨_, IsLast.step_yes e⟩
    · exact ⟨x, hx.step_no (by omega)⟩
theorem isRead_ex {l : List Ch} (hs : storeOk l) (t r h : Int) : ∃ x, IsRead l t r h x := by
  by_cases hx : ∃ i, i < l.length ∧ km l i t r
  · obtain ⟨i, hi, hk⟩ := hx
    obtain ⟨x, hx⟩ := isLast_ex (cAt l i).l h (cAt l i).l.length
    exact ⟨x, .inr ⟨i, hi, hk, fun j hj hk' => by have := keys_one hs (show j < l.length by omega) hi hk' hk; omega, hx⟩⟩
  · exact ⟨(0, 0), .inl ⟨rfl, fun i hi hk => hx ⟨i, hi, hk⟩⟩⟩
theorem rAns_ex (l : List Ch) (t r h : Int) : RAns l t r h (readP l t r h) := by
  by_cases hc : storeOk l ∧ hourB h = true ∧ tabB t = true
  · obtain ⟨x, hx⟩ := isRead_ex hc.1 t r h
    have hp : RAns l t r h (x.2, x.1) := .inr ⟨hc, x, hx, rfl⟩
    rw [← readP_is hp]; exact hp
  · have hp : RAns l t r h (0, -1) := .inl ⟨hc, rfl⟩
    rw [← readP_is hp]; exact hp
end Go.Proofs.YtmecbppblbmchaaGreatDoor

/- Where a key stands in rows, as a function. -/
namespace Go.Proofs.YtmecbppblbmchaaGreatDoor
open Go.ChangeShapes Go.WideShapes Go.ChangeAt Go.RowKit Go.Sort
set_option linter.unusedVariables false
set_option maxRecDepth 100000

theorem klB_no {a b : Int} : klB a b a b = false := by
  cases h : klB a b a b with
  | false => rfl
  | true => rw [klB_iff] at h; omega
theorem LowK.one {l : List Rw} {t r : Int} {i j : Nat} (hi : LowK l t r i) (hj : LowK l t r j) : i = j := by
  obtain ⟨a1, a2, a3⟩ := hi
  obtain ⟨b1, b2, b3⟩ := hj
  rcases Nat.lt_trichotomy i j with h | h | h
  · have h1 := a3 i (Nat.le_refl _) (by omega)
    rw [b2 i h] at h1
    exact absurd h1 (by decide)
  · exact h
  · have h1 := b3 j (Nat.le_refl _) (by omega)
    rw [a2 j h] at h1
    exact absurd h1 (by decide)
theorem LowK.at {l : List Rw} {t r : Int} {i j : Nat} (hi : LowK l t r i) (hu : RowsUp l) (hj : AtK l t r j) : j = i := by
  obtain ⟨a1, a2, a3⟩ := hi
  obtain ⟨b1, rfl, rfl⟩ := hj
  rcases Nat.lt_trichotomy i j with h | h | h
  · have h1 := hu i j h b1
    rw [a3 i (Nat.le_refl _) (by omega)] at h1
    exact absurd h1 (by decide)
  · exact h.symm
  · have h1 := a2 j h
    rw [klB_no] at h1
    exact absurd h1 (by decide)
theorem lowK_ex {l : List Rw} (hu : RowsUp l) (t r : Int) : ∃ i, LowK l t r i := by
  have key : ∀ n, n ≤ l.length → ∃ i, i ≤ n ∧ (∀ j, j < i → klB (rAt l j).t (rAt l j).r t r = true) ∧ ∀ j, i ≤ j → j < n → klB (rAt l j).t (rAt l j).r t r = false := by
    intro n
    induction n with
    | zero => exact fun _ => ⟨0, Nat.le_refl _, fun j hj => absurd hj (Nat.not_lt_zero _), fun j _ hj => absurd hj (Nat.not_lt_zero _)⟩
    | succ n ih =>
      intro hn
      obtain ⟨i, h1, h2, h3⟩ := ih (by omega)
      cases hk : klB (rAt l n).t (rAt l n).r t r with
      | true =>
        refine ⟨n + 1, Nat.le_refl _, fun j hj => ?_, fun j h4 h5 => by omega⟩
        by_cases e : j = n
        · subst e; exact hk
        · exact klB_trans (hu j n (by omega) (by omega)) hk
      | false =>
        refine ⟨i, by omega, h2, fun j h4 h5 => ?_⟩
        by_cases e : j = n
        · subst e; exact hk
        · exact h3 j h4 (by omega)
  obtain ⟨i, h1, h2, h3⟩ := key l.length (Nat.le_refl _)
  exact ⟨i, h1, h2, h3⟩
noncomputable def lowP (l : List Rw) (t r : Int) : Nat := oneP 0 (LowK l t r)
theorem lowP_is {l : List Rw} {t r : Int} {i : Nat} (h : LowK l t r i) : i = lowP l t r := oneP_is (fun _ _ h1 h2 => h1.one h2) h
theorem lowP_low {l : List Rw} (hu : RowsUp l) (t r : Int) : LowK l t r (lowP l t r) := by
  obtain ⟨i, hi⟩ := lowK_ex hu t r
  rw [← lowP_is hi]; exact hi
theorem findRow_is (v : Value) (l : List Rw) (t r : Int) (w : World) {lo hi : Nat} (h : RowsAt lo hi w v l) (hu : RowsUp l) (hn : l.length ≤ 1048580) :
    Calls Tryz.prog 83 #[v, .agg #[.int .i64 t, .int .i64 r]] w fun e w' => e = .returned (.tuple #[.int .i64 (lowP l t r : Int), .bool (decide (AtK l t r (lowP l t r)))]) ∧ Below w.heap.size w w' :=
  (findRow_any v l t r w h hu hn).mono fun e w' ⟨⟨i, h1, h2⟩, h3⟩ => ⟨by rw [h2, lowP_is h1], h3⟩
theorem rowsUp_of {l : List Rw} (h : ∀ i, i < l.length → rowOk l i) : RowsUp l := by
  intro i j
  induction j with
  | zero => exact fun h0 => absurd h0 (Nat.not_lt_zero _)
  | succ j ih =>
    intro hij hj
    have h1 := (h (j + 1) hj).2 (Nat.succ_pos _)
    simp only [Nat.add_sub_cancel] at h1
    by_cases e : i = j
    · subst e; exact h1
    · exact klB_trans (ih (by omega) (by omega)) h1
theorem mgr_up {m : Md} (h : mgrOk m) {i : Nat} (hi : i < m.x.length) : RowsUp (tAt m.x i).w := rowsUp_of (h.2.2.2.2.2.2.2 i hi).2.2.2.2.2.2
end Go.Proofs.YtmecbppblbmchaaGreatDoor

/- copy at elements of several cells; a slice's cells. -/
namespace Go.Proofs.YtmecbppblbmchaaGreatDoor
open Go.ChangeShapes Go.WideShapes Go.ChangeAt Go.RowKit
set_option linter.unusedVariables false
set_option maxRecDepth 100000

theorem run_copy_rowK {P : Program} (w : World) (dT sT ty elem : TypeId) (g o dLen dCap : Nat) (a : Addr) (sLen sCap : Nat) (cur : Array Value) (t : TypeId) (cs : List Value) (n k : Nat)
    (hu : P.underlying dT = some (.slice elem)) (hs : (P.info? elem).map (·.size) = some k)
    (hg : w.heap[g]? = some (.cells cur t (0, 0))) (hm : Nat.min sLen dLen = n) (hn : cs.length = n * k)
    (hsrc : ∀ j v, cs[j]? = some v → w.cell? (a.add j) = some v) (hfit : o + cs.length ≤ cur.size) (h1 : ∀ v ∈ cs, v.oneCell' = true) :
    (Builtin.copy_ #[dT, sT] ty #[.slice (some ⟨g, o, none⟩) dLen dCap, .slice (some a) sLen sCap]).run P w =
      .ok (goInt n) (w.setRow g (cur.toList.take o ++ cs ++ cur.toList.drop (o + cs.length)).toArray) := by
  have hl := run_loadCells_list (P := P) w a cs hsrc
  have hst := run_storeCells_at P g o t cs 0 cur w hg (by simpa using hfit) h1
  cases hq : P.info? elem with
  | none => simp [hq] at hs
  | some i =>
    have hi : i.size = k := by simpa [hq] using hs
    simp [Builtin.copy_, run_underlying hu, Builtin.lenOf, Builtin.firstCells, sizeOf, typeInfo, hq, hi, hm, ← hn, hl, hst]

theorem run_copy_noneK {P : Program} (w : World) (dT sT ty elem : TypeId) (d s : Option Addr) (dLen dCap sLen sCap k : Nat)
    (hu : P.underlying dT = some (.slice elem)) (hs : (P.info? elem).map (·.size) = some k) (hz : Nat.min sLen dLen = 0) :
    (Builtin.copy_ #[dT, sT] ty #[.slice d dLen dCap, .slice s sLen sCap]).run P w = .ok (goInt 0) w := by
  have h0 : ∀ a, (loadCells a 0).run P w = .ok #[] w := fun a => run_loadCells_list (P := P) w a [] (by simp)
  cases hq : P.info? elem with
  | none => simp [hq] at hs
  | some i => cases d <;> cases s <;> simp [Builtin.copy_, run_underlying hu, Builtin.lenOf, Builtin.firstCells, sizeOf, typeInfo, hq, storeCells, h0, hz]

theorem add_at (b off x : Nat) : (⟨b, off, none⟩ : Addr).add x = ⟨b, off + x, none⟩ := by
  by_cases h : x = 0 <;> simp [Addr.add, h]

/-- The slice's cells lie in memory. -/
def CellsAt (w : World) (a : Option Addr) (n : Nat) (cs : List Value) : Prop := 0 < n → ∃ b off, a = some ⟨b, off, none⟩ ∧ ∀ j v, cs[j]? = some v → w.cell? ⟨b, off + j, none⟩ = some v
theorem CellsAt.stays {w w' : World} {a : Option Addr} {n : Nat} {cs : List Value} (h : CellsAt w a n cs) (hb : Below w.heap.size w w') : CellsAt w' a n cs := fun hp => by
  obtain ⟨b, off, h1, h2⟩ := h hp
  exact ⟨b, off, h1, fun j v hj => cell_stays hb (h2 j v hj)⟩

/-- The cells of versions. -/
def vcells (l : List Vr) : List Value := l.flatMap fun x => [.int .i64 x.1, .int .i64 x.2]
theorem vcells_get : ∀ (l : List Vr) (i : Nat), i < l.length → (vcells l)[i * 2]? = some (.int .i64 (vAt l i).1) ∧ (vcells l)[i * 2 + 1]? = some (.int .i64 (vAt l i).2)
  | [], i, h => absurd h (Nat.not_lt_zero _)
  | x :: l, 0, h => by simp [vcells, vAt]
  | x :: l, i + 1, h => by
    obtain ⟨h1, h2⟩ := vcells_get l i (by simpa using h)
    have e : vcells (x :: l) = .int .i64 x.1 :: .int .i64 x.2 :: vcells l := by simp [vcells]
    rw [e]
    refine ⟨?_, ?_⟩
    · rw [show (i + 1) * 2 = i * 2 + 1 + 1 by omega]; simpa [vAt] using h1
    · rw [show (i + 1) * 2 + 1 = i * 2 + 1 + 1 + 1 by omega]; simpa [vAt] using h2
theorem vcells_length (l : List Vr) : (vcells l).length = l.length * 2 := by
  induction l with
  | nil => rfl
  | cons x l ih => simp only [vcells, List.flatMap_cons, List.length_append, List.length_cons] at *; rw [ih]; simp; omega
theorem vcells_one (l : List Vr) : ∀ v ∈ vcells l, v.oneCell' = true := by
  intro v hv
  simp [vcells] at hv
  obtain ⟨a, b, _, h⟩ := hv
  rcases h with rfl | rfl <;> rfl

theorem VersAt.cells {lo hi : Nat} {w : World} {a : Option Addr} {cap : Nat} {l : List Vr} (h : VersAt lo hi w (.slice a l.length cap) l) : CellsAt w a l.length (vcells l) := fun hp => by
  obtain ⟨a', cap', e, hm, hc⟩ := h
  injection e with e1 e2 e3
  subst e1
  obtain ⟨b, off, rfl, _, _, hcc⟩ := hc hp
  refine ⟨b, off, rfl, fun j v hj => ?_⟩
  have hjl : j < l.length * 2 := by rw [← vcells_length]; exact (List.getElem?_eq_some_iff.1 hj).1
  obtain ⟨g1, g2⟩ := vcells_get l (j / 2) (by omega)
  obtain ⟨k1, k2⟩ := hcc (j / 2) (by omega)
  rcases Nat.mod_two_eq_zero_or_one j with hj2 | hj2
  · rw [show j = j / 2 * 2 by omega] at hj ⊢
    rw [g1] at hj
    cases hj
    exact k1
  · rw [show j = j / 2 * 2 + 1 by omega] at hj ⊢
    rw [g2] at hj
    cases hj
    exact k2

end Go.Proofs.YtmecbppblbmchaaGreatDoor

/- impl.copyVers and impl.storeOf: new lists, new chains, sorted by their keys. -/
namespace Go.Proofs.YtmecbppblbmchaaGreatDoor
open Go.ChangeShapes Go.WideShapes Go.ChangeAt Go.RowKit Go.Maps Go.Sort
set_option linter.unusedVariables false
set_option maxRecDepth 100000
attribute [local go_sem ↓] Go.wp_at_zero Go.wp_at_succ

theorem copyVers_own (v : Value) (l : List Vr) (w : World) {lo hi : Nat} (h : VersAt lo hi w v l) (hn : l.length ≤ 1048576) :
    Calls Tryz.prog 104 #[v] w fun e w' => e = .returned (.slice (some ⟨w.heap.size, 0, none⟩) l.length l.length) ∧ OwnV w' w.heap.size l ∧ Below w.heap.size w w' := by
  obtain ⟨a, cap, rfl, hm, hc⟩ := h
  have hmk := make_vers l.length hn w
  have hsz : (Tryz.prog.info? 123).map (·.size) = some 2 := by kernel_rfl
  have hbA : Below w.heap.size w (w.alloc (.cells (madeCells #[.int .i64 0, .int .i64 0] (l.length * 2)) 123)) := (Below.refl _ _).alloc (Nat.le_refl _) _
  by_cases h0 : l.length = 0
  · have hcp := fun ty => run_copy_noneK (P := Tryz.prog) (w.alloc (.cells (madeCells #[.int .i64 0, .int .i64 0] (l.length * 2)) 123)) 92 92 ty 123 (some ⟨w.heap.size, 0, none⟩) a l.length l.length l.length cap 2 Tryz.underlying92 hsz (by rw [h0]; rfl)
    obtain ⟨W1, hW1⟩ : ∃ W1, w.alloc (.cells (madeCells #[.int .i64 0, .int .i64 0] (l.length * 2)) 123) = W1 := ⟨_, rfl⟩
    have hrow : W1.heap[w.heap.size]? = some (.cells (madeCells #[.int .i64 0, .int .i64 0] (l.length * 2)) 123 (0, 0)) := by rw [← hW1]; exact Deep.blk_alloc_new _ _
    rw [hW1] at hmk hcp hbA
    have H0 : Hid (l.length = 0) := h0
    clear hc hsz hW1 h0
    go_enter Tryz.func104, Tryz.ntmps104
    go_wp2
    go_ret
    exact ⟨rfl, ⟨fun _ => .int .i64 0, ⟨_, hrow, by rw [H0.out]; omega, fun j hj => absurd hj (by rw [H0.out]; omega)⟩, fun i hi => absurd hi (by rw [H0.out]; omega)⟩, hbA⟩
  · obtain ⟨b, off, rfl, hlo, hhi, hcc⟩ := hc (by omega)
    have hsrc : ∀ j v, (vcells l)[j]? = some v → (w.alloc (.cells (madeCells #[.int .i64 0, .int .i64 0] (l.length * 2)) 123)).cell? ((⟨b, off, none⟩ : Addr).add j) = some v := by
      intro j v hj
      have hjl : j < l.length * 2 := by rw [← vcells_length]; exact (List.getElem?_eq_some_iff.1 hj).1
      obtain ⟨g1, g2⟩ := vcells_get l (j / 2) (by omega)
      obtain ⟨k1, k2⟩ := hcc (j / 2) (by omega)
      refine cell_stays hbA ?_
      rcases Nat.mod_two_eq_zero_or_one j with hj2 | hj2
      · rw [show j = j / 2 * 2 by omega] at hj ⊢
        rw [g1] at hj
        cases hj
        rw [add_at]; exact k1
      · rw [show j = j / 2 * 2 + 1 by omega] at hj ⊢
        rw [g2] at hj
        cases hj
        rw [add_at]; exact k2
    have hcp := fun ty => run_copy_rowK (P := Tryz.prog) (w.alloc (.cells (madeCells #[.int .i64 0, .int .i64 0] (l.length * 2)) 123)) 92 92 ty 123 w.heap.size 0 l.length l.length ⟨b, off, none⟩ l.length cap _ _ (vcells l) l.length 2 Tryz.underlying92 hsz (Deep.blk_alloc_new _ _) (Nat.min_self _) (vcells_length l) hsrc (by rw [vcells_length, size_madeCells]; omega) (vcells_one l)
    obtain ⟨W2, hW2⟩ : ∃ W2, (w.alloc (.cells (madeCells #[.int .i64 0, .int .i64 0] (l.length * 2)) 123)).setRow w.heap.size (((madeCells #[.int .i64 0, .int .i64 0] (l.length * 2)).toList.take 0 ++ vcells l ++ (madeCells #[.int .i64 0, .int .i64 0] (l.length * 2)).toList.drop (0 + (vcells l).length)).toArray) = W2 := ⟨_, rfl⟩
    rw [hW2] at hcp
    have hrow : W2.heap[w.heap.size]? = some (.cells (vcells l).toArray 123 (0, 0)) := by
      have := setRow_heap (w.alloc (.cells (madeCells #[.int .i64 0, .int .i64 0] (l.length * 2)) 123)) w.heap.size _ (((madeCells #[.int .i64 0, .int .i64 0] (l.length * 2)).toList.take 0 ++ vcells l ++ (madeCells #[.int .i64 0, .int .i64 0] (l.length * 2)).toList.drop (0 + (vcells l).length)).toArray) _ _ (Deep.blk_alloc_new _ _)
      rw [hW2] at this
      rw [this]
      congr 2
      rw [List.drop_eq_nil_of_le (by rw [vcells_length, Array.length_toList, size_madeCells]; omega)]
      simp
    have hb2 : Below w.heap.size w W2 := by
      rw [← hW2]
      exact hbA.trans ⟨rfl, rfl, rfl, by simp [World.setRow], fun k hk => setRow_other _ _ k _ (by omega)⟩
    clear hc hsz hcc hsrc hW2
    go_enter Tryz.func104, Tryz.ntmps104
    go_wp2
    go_ret
    refine ⟨rfl, ⟨fun j => (vcells l).getD j (.int .i64 0), ⟨_, hrow, by simp [vcells_length], fun j hj => ?_⟩, fun i hi => ?_⟩, hb2⟩
    · have hj' : j < (vcells l).length := by rw [vcells_length]; exact hj
      simp [List.getD, List.getElem?_eq_getElem hj']
    · obtain ⟨g1, g2⟩ := vcells_get l i hi
      simp [List.getD, g1, g2]

end Go.Proofs.YtmecbppblbmchaaGreatDoor

/- The keys of a map, as maps.Keys hands them on: each once, in some order; collected into a slice. -/
namespace Go.Proofs.YtmecbppblbmchaaGreatDoor
open Go.ChangeShapes Go.WideShapes Go.ChangeAt Go.RowKit Go.Maps Go.Sort Go.Shelf
set_option linter.unusedVariables false
set_option maxRecDepth 100000

def encK (x : Int × Int) : Value := .agg #[.int .i64 x.1, .int .i64 x.2]

theorem key_inv {key : Value} {kl : Lit} (h : keyOf Tryz.prog 46 key = some kl) : ∃ x : Int × Int, key = encK x ∧ wf x.1 ∧ wf x.2 := by
  have hk : Tryz.prog.keyType 46 = true := by kernel_rfl
  have hc : Tryz.prog.cellsOf 46 = 2 := by kernel_rfl
  have hi : Tryz.prog.cellsOf 3 = 1 := by kernel_rfl
  obtain ⟨m, hm⟩ : ∃ m, Tryz.prog.types.size = m + 1 := ⟨Tryz.prog.types.size - 1, by have : 0 < Tryz.prog.types.size := of_decide_eq_true (by kernel_rfl); omega⟩
  unfold keyOf at h
  rw [Tryz.underlying46] at h
  simp only [hk, Bool.true_and, hm] at h
  split at h
  · rename_i hf
    cases key <;> simp [Value.formed, Tryz.underlying46, hc] at hf
    rename_i cs
    match cs, hf with
    | ⟨[v0, v1]⟩, _ =>
      simp [Value.cells, Program.keyLits, Tryz.underlying46, Tryz.underlying3, hc, hi] at h
      cases v0 <;> simp at h
      rename_i q0 n0 _
      split at h
      · rename_i h0
        obtain ⟨rfl, w0⟩ := h0
        cases v1 <;> simp at h
        rename_i q1 n1 _
        split at h
        · rename_i h1
          obtain ⟨rfl, w1⟩ := h1
          exact ⟨(n0, n1), rfl, w0, w1⟩
        · simp at h
      · simp at h
  · simp at h

theorem encK_inj {x y : Int × Int} (h : encK x = encK y) : x = y := by
  simp [encK] at h
  exact Prod.ext h.1 h.2

/-- The list has just the keys of the map, each once. -/
def KeysAre (f : Int → Int → Option Value) (ss : List (Int × Int)) : Prop := ss.Nodup ∧ (∀ x ∈ ss, wf x.1 ∧ wf x.2) ∧ ∀ t r, wf t → wf r → ((t, r) ∈ ss ↔ (f t r).isSome = true)

/-- .. those that are no longer to come. -/
def CollK (f : Int → Int → Option Value) (left : Lit → Bool) (ss : List (Int × Int)) : Prop := ss.Nodup ∧ (∀ x ∈ ss, wf x.1 ∧ wf x.2) ∧ ∀ t r, wf t → wf r → ((t, r) ∈ ss ↔ (f t r).isSome = true ∧ left (klit t r) = false)

theorem CollK.start {D : DataW Value} {f : Int → Int → Option Value} (h : At D f) : CollK f (Maps.has D) [] := by
  refine ⟨List.nodup_nil, by simp, fun t r ht hr => ?_⟩
  simp only [List.not_mem_nil, false_iff, not_and]
  intro hs hl
  obtain ⟨v, hv⟩ := Option.isSome_iff_exists.1 hs
  have := has_true_of_atKey (y := .held v) (fun z => by rw [h.2 t r ht hr z, hv])
  rw [this] at hl
  cases hl

theorem CollK.step {D : DataW Value} {f : Int → Int → Option Value} {left : Lit → Bool} {ss : List (Int × Int)} (hA : At D f) (h : CollK f left ss) {x : Int × Int} (w0 : wf x.1) (w1 : wf x.2) (hlk : left (klit x.1 x.2) = true) {y : DataW Value} (hat : ∀ zd, D.atKey (klit x.1 x.2) zd = y) :
    CollK f (fun z => left z && !z.sameKey (klit x.1 x.2)) (ss ++ [x]) := by
  obtain ⟨h1, h2, h3⟩ := h
  have hx : x ∉ ss := fun hx => by have := ((h3 x.1 x.2 w0 w1).1 hx).2; rw [this] at hlk; cases hlk
  have hsome : (f x.1 x.2).isSome = true := by
    cases hf : f x.1 x.2 with
    | some v => rfl
    | none =>
      have e1 := hat (.held (.bool true))
      have e2 := hat (.held (.bool false))
      rw [hA.2 _ _ w0 w1, hf] at e1 e2
      rw [← e2] at e1
      simp at e1
  refine ⟨by rw [List.nodup_append]; exact ⟨h1, by simp, fun a ha b hb => by simp at hb; subst hb; exact fun e => hx (e ▸ ha)⟩, fun z hz => ?_, fun t r ht hr => ?_⟩
  · simp at hz
    rcases hz with hz | rfl
    · exact h2 z hz
    · exact ⟨w0, w1⟩
  · by_cases e : (t, r) = x
    · subst e
      have hs : (klit t r).sameKey (klit t r) = true := by simp [klit, Lit.sameKey]
      simp [hs, hsome]
    · have hne : (klit t r).sameKey (klit x.1 x.2) = false := sameKey_ne fun e' => e (by obtain ⟨a, b⟩ := klit_inj ht hr w0 w1 e'; exact Prod.ext a b)
      simp only [List.mem_append, List.mem_singleton, e, or_false, hne]
      simpa using h3 t r ht hr

theorem CollK.step2 {D : DataW Value} {f : Int → Int → Option Value} {left : Lit → Bool} {ss : List (Int × Int)} (hA : At D f) (h : CollK f left ss) {t r : Int} (w0 : wf t) (w1 : wf r) (hlk : left (klit t r) = true) {y : DataW Value} (hat : ∀ zd, D.atKey (klit t r) zd = y) :
    CollK f (fun z => left z && !z.sameKey (klit t r)) (ss ++ [(t, r)]) := CollK.step (x := (t, r)) hA h w0 w1 hlk hat

theorem CollK.done {f : Int → Int → Option Value} {left : Lit → Bool} {ss : List (Int × Int)} (h : CollK f left ss) (hl : ∀ kl, left kl = false) : KeysAre f ss :=
  ⟨h.1, h.2.1, fun t r ht hr => by rw [h.2.2 t r ht hr, hl]; simp⟩

set_option maxHeartbeats 1000000 in
theorem keysIt_in (n : Nat) (hn : 1 ≤ n) (l Bm b nn : Nat) (D0 : DataW Value) (f : Int → Int → Option Value) (hat0 : At D0 f) (J : List (Int × Int) → World → Prop)
    (hY : ∀ pre x W, J pre W → pre.length < Maps.size D0 → YieldAt Fence.wide (n - 1) Tryz.prog l #[encK x] W fun e W' => e = .returned (.bool true) ∧ J (pre ++ [x]) W' ∧ KeepsWalks W W')
    (W : World) (hJ : AbidesFrom W.heap.size J) (hm : W.cell? ⟨Bm, 0, none⟩ = some (.map (some b))) (hown : W.ownsMap Tryz.prog 46 KV b nn D0) (h0 : J [] W) :
    CallsIn Fence.wide n Tryz.prog 155 #[.func (.yield l) #[] #[], .pointer (some ⟨Bm, 0, none⟩)] W fun e W' => (∃ v, e = .returned v) ∧ ∃ ss : List (Int × Int), KeysAre f ss ∧ J ss W' := by
  refine callsIn_of_wp Tryz.func155 rfl trivial ?_ rfl
  simp only [Tryz.ntmps155, List.size_toArray, List.length_cons, List.length_nil, Nat.reduceAdd, Nat.reduceSub, Array.replicate_succ, Array.replicate_zero, List.push_toArray, List.append_toArray, List.nil_append, List.cons_append]
  gi_wp2_with (first
    | (gi_at_range; refine wpListIn_range_own _ rfl _ 169 rfl 46 92 mlaw Tryz.underlying169 _ b nn _ rfl hown ?_; intro w0 hrg0 hg0 hs0)
    | gi_in)
  go_frame
  gi_loopw [3] (fun _ wr => ∃ (left : Lit → Bool) (cnt : Nat) (ss : List (Int × Int)), wr.ranges Tryz.prog 46 KV b W.heap.size nn D0 left cnt ∧ ss.length + cnt ≤ Maps.size D0 ∧ CollK f left ss ∧ J ss wr)
    (fun _ wr => wr.rangeLeft b W.heap.size)
  case atStart =>
    exact ⟨_, _, [], hrg0, by simp, CollK.start hat0, hJ [] W w0 none h0 hg0 (fun r e => by cases e)⟩
  case round =>
    obtain ⟨left, cnt, ss, hrg, hcs, hC, hJs⟩ := hrel
    gi_wp2_with (first
      | (gi_at_next; refine wpListIn_next_ranges _ rfl _ rfl 46 mlaw KV encK id (fun key kl hk => by obtain ⟨x, hx, _⟩ := key_inv hk; exact ⟨x, hx⟩) (fun v _ _ => ⟨v, rfl⟩) b W.heap.size nn _ _ _ rfl hrg ?_ ?_)
      | gi_in)
    · intro hc0 hl0
      gi_wp2
      go_end0
      exact ⟨⟨_, rfl⟩, ss, hC.done hl0, hJs⟩
    · intro x1 x2 c kl yd yp w2 cnt2 hkey hlk hv hat hrg2 hlt hg2 hs2 hen
      obtain ⟨x, ex, wx0, wx1⟩ := key_inv hkey
      obtain rfl : (x1, x2) = x := encK_inj ex
      have ekl : kl = klit x1 x2 := by rw [encK, key_is wx0 wx1] at hkey; exact (Option.some.inj hkey).symm
      subst ekl
      have hJ2 : J ss w2 := hJ ss wr w2 (some W.heap.size) hJs hg2 (fun r e => by cases e; exact ⟨Nat.le_refl _, hrg.iter_walk⟩)
      have hJ3 : J ss (w2.alloc (Obj.cells #[.int .i64 x1, .int .i64 x2] 46)) := hJ ss w2 _ none hJ2 (World.grownBy_alloc _ _ _) (fun r e => by cases e)
      obtain ⟨fn, tmps, assign, body, hy, hR⟩ := hY ss (x1, x2) _ hJ3 (by omega)
      clear hs2 hkey
      unfold encK at hen hy
      gi_wp2
      refine hR.mono ?_
      rintro e W3 ⟨rfl, hJ4, hk3⟩
      gi_wp2
      have hrg3 := (hrg2.alloc _).of_walks hk3
      have hC3 := CollK.step2 hat0 hC wx0 wx1 hlk hat
      have hcs3 : (ss ++ [(x1, x2)]).length + cnt2 ≤ Maps.size D0 := by simp; omega
      go_roundw
      case rel => exact ⟨_, cnt2, ss ++ [(x1, x2)], hrg3, hcs3, hC3, hJ4⟩
      case measure => rw [hrg3.left_eq, hrg.left_eq]; exact hlt

theorem keys_in (n : Nat) (mb : Option Nat) (w : World) :
    CallsIn Fence.wide n Tryz.prog 147 #[.map mb] w fun e w' => e = .returned (.func (.func 155) #[] #[.pointer (some ⟨w.heap.size, 0, none⟩)]) ∧ w' = w.alloc (.cells #[.map mb] 169) := by
  refine callsIn_of_wp Tryz.func147 rfl trivial ?_ rfl
  simp only [Tryz.ntmps147, List.size_toArray, List.length_cons, List.length_nil, Nat.reduceAdd, Nat.reduceSub, Array.replicate_succ, Array.replicate_zero, List.push_toArray, List.append_toArray, List.nil_append, List.cons_append]
  gi_wp2
  go_ret
  exact ⟨rfl, rfl⟩

/-- maps.Keys hands back an iterator over the map's keys. -/
theorem keys_gives (n : Nat) (hn : 1 ≤ n) (Bm b nn : Nat) (D0 : DataW Value) (f : Int → Int → Option Value) (hat : At D0 f) (w : World) (hBm : Bm < w.heap.size) (hm : w.cell? ⟨Bm, 0, none⟩ = some (.map (some b))) (hown : w.ownsMap Tryz.prog 46 KV b nn D0) :
    SeqGives Fence.wide n Tryz.prog 155 #[.pointer (some ⟨Bm, 0, none⟩)] encK (KeysAre f) (Maps.size D0) w := fun l J W hW hJ hY h0 => by
  have hown' : W.ownsMap Tryz.prog 46 KV b nn D0 := by
    have hbl := hown.lt
    obtain ⟨es, clock, hb, Ft, hs, hD⟩ := hown
    exact ⟨es, clock, (hW.block b hbl).trans hb, Ft, hs, hD⟩
  exact keysIt_in n hn l Bm b nn D0 f hat J hY W hJ ((hW.cell (p := ⟨Bm, 0, none⟩) hBm).trans hm) hown' h0

end Go.Proofs.YtmecbppblbmchaaGreatDoor

/- slices.AppendSeq and slices.Collect of keys, against whatever iterator: a slice of just what came, in that order. -/
namespace Go.Proofs.YtmecbppblbmchaaGreatDoor
open Go.ChangeShapes Go.WideShapes Go.ChangeAt Go.RowKit Go.Maps Go.Sort Go.Shelf
set_option linter.unusedVariables false
set_option maxRecDepth 100000

def cells2 (x : Int × Int) : List Value := [.int .i64 x.1, .int .i64 x.2]
def flatK (l : List (Int × Int)) : List Value := l.flatMap cells2
theorem flatK_snoc (l : List (Int × Int)) (x : Int × Int) : flatK (l ++ [x]) = flatK l ++ cells2 x := by simp [flatK]

theorem news2 (w : World) (o : Obj) (x y : Value) (T : TypeId) : ∀ (j : Nat) (u : Value), [x, y][j]? = some u → ((w.alloc o).alloc (.cells #[x, y] T)).cell? ((⟨w.heap.size + 1, 0, none⟩ : Addr).add j) = some u := by
  intro j u hj
  match j, hj with
  | 0, hj => simp at hj; subst hj; simp [go_sem, Addr.add]
  | 1, hj => simp at hj; subst hj; simp [go_sem, Addr.add]
  | j + 2, hj => simp at hj
theorem news2_one (a b : Int) : ∀ u ∈ [Value.int .i64 a, .int .i64 b], u.oneCell' = true := by
  intro u hu
  simp at hu
  rcases hu with rfl | rfl <;> rfl

def apAssignK : Code := Code.region 2 #[{ dst := some 5, op := Op.alloc 46, type := 0, pos := "iter.go:51", after := #[], guard := none }, { dst := none, op := Op.store 46 (Operand.tmp 5) (Operand.tmp 7), type := 0, pos := "iter.go:51", after := #[{ on := 0, ground := Ground.data }, { on := 0, ground := Ground.phase }], guard := none }] false
def apBodyK : Code := Code.block 1 (Code.region 3 #[{ dst := some 8, op := Op.load 206 (Operand.tmp 2), type := 206, pos := "iter.go:52", after := #[], guard := none }, { dst := some 9, op := Op.load 46 (Operand.tmp 5), type := 46, pos := "iter.go:52", after := #[], guard := none }, { dst := some 10, op := Op.buildSlice 206 1 #[(0, Operand.tmp 9)], type := 206, pos := "iter.go:52", after := #[{ on := 1, ground := Ground.data }], guard := none }, { dst := some 11, op := Op.call { callee := Callee.builtin Builtin.append, args := #[Operand.tmp 8, Operand.tmp 10], argTypes := #[ 206, 206 ] }, type := 206, pos := "iter.go:52", after := #[{ on := 0, ground := Ground.data }, { on := 2, ground := Ground.data }], guard := none }, { dst := none, op := Op.store 206 (Operand.tmp 2) (Operand.tmp 11), type := 0, pos := "iter.go:52", after := #[{ on := 3, ground := Ground.data }, { on := 3, ground := Ground.chain }, { on := 0, ground := Ground.phase }, { on := 1, ground := Ground.phase }, { on := 2, ground := Ground.phase }, { on := 3, ground := Ground.phase }], guard := none }] false)
/-- The loop's record: AppendSeq's temporaries as they stood at the entering. -/
def apRecK (fn : FuncId) (sv : Value) (Bs D : Nat) (st : LoopState) (pend : Option Code) : Loop :=
  { state := st, pending := pend, fn, tmps := #[.slice none 0 0, sv, .pointer (some ⟨Bs, 0, none⟩), undef, .slice none 0 0, undef, sv, undef, undef, undef, undef, undef, undef], params := #[7], assign := apAssignK, body := apBodyK, defers := D }

/-- Between two rounds: the box holds a slice that owns what has come so far. -/
structure ApK (w0 : World) (fn : FuncId) (sv : Value) (Bs l D : Nat) (ss : List (Int × Int)) (W : World) : Prop where
  box : ∃ v, W.heap[Bs]? = some (.cells #[v] 206 (0, 0)) ∧ W.ownsRow w0.heap.size 46 2 v ss.length (flatK ss) ∧ (v = .slice none 0 0 ↔ ss = [])
  L : W.heap[l]? = some (.loop (apRecK fn sv Bs D .ready none))
  K : W.heap[D]? = some (.deferred (some []))
  below : Below w0.heap.size w0 W

theorem ap_abidesK (w0 : World) (fn : FuncId) (sv : Value) (Bs l D B : Nat) (hB : w0.heap.size ≤ B) : AbidesFrom B (ApK w0 fn sv Bs l D) := fun s W W' row h hg hrow => by
  have hrow' : ∀ r, row = some r → ∃ o : Obj, W.heap[r]? = some o ∧ o.isWalk = true := fun r e => (hrow r e).2
  obtain ⟨v, hv, hr, hn⟩ := h.box
  exact ⟨⟨v, (grownBy_keeps hg hrow' hv rfl).trans hv, ownsRow_abides_a hr hg hrow', hn⟩, (grownBy_keeps hg hrow' h.L rfl).trans h.L, (grownBy_keeps hg hrow' h.K rfl).trans h.K,
    h.below.grown hg h.below.size (fun k e => Nat.le_trans hB (hrow k e).1)⟩

theorem infoKey : (Tryz.prog.info? 46).map (fun i => (i.zero, i.size, i.bytes)) = some (some (.agg #[.int .i64 0, .int .i64 0]), 2, 16) := by kernel_rfl

set_option maxHeartbeats 4000000 in
theorem apYieldK (m : Nat) (w0 : World) (fn : FuncId) (sv : Value) (Bs l D : Nat) (hBl : Bs ≠ l) (hDl : D ≠ l) (hDB : D ≠ Bs) (h0B : w0.heap.size ≤ Bs) (h0l : w0.heap.size ≤ l)
    (N : Nat) (hN : N ≤ 1048576) (ss : List (Int × Int)) (x : Int × Int) (W : World) (h : ApK w0 fn sv Bs l D ss W) (hlen : ss.length < N) :
    YieldAt Fence.wide m Tryz.prog l #[encK x] W fun e W' => e = .returned (.bool true) ∧ ApK w0 fn sv Bs l D (ss ++ [x]) W' ∧ KeepsWalks W W' := by
  have hne : (206 : Nat) ≠ 46 := by decide
  obtain ⟨i0, hi, hz0, hz1, hz2⟩ := info_parts infoKey
  obtain ⟨v, hv, hrow, _⟩ := h.box
  refine ⟨fn, #[.slice none 0 0, sv, .pointer (some ⟨Bs, 0, none⟩), undef, .slice none 0 0, undef, sv, encK x, undef, undef, undef, undef, undef], apAssignK, apBodyK, by simpa [apRecK] using run_yield (P := Tryz.prog) (args := #[encK x]) h.L rfl, roundIn_of_wpIn trivial ?_⟩
  have hl0 : l < W.heap.size := (Array.getElem?_eq_some_iff.1 h.L).1
  have hB0 : Bs < W.heap.size := (Array.getElem?_eq_some_iff.1 hv).1
  have hD0 : D < W.heap.size := (Array.getElem?_eq_some_iff.1 h.K).1
  obtain ⟨WA, hWA⟩ : ∃ WA, W.alloc (Obj.cells #[Value.int IntKind.i64 x.1, Value.int IntKind.i64 x.2] 46) = WA := ⟨_, rfl⟩
  have old : ∀ k, k < W.heap.size → WA.heap[k]? = W.heap[k]? := fun k hk => by rw [← hWA]; exact Below.heap_alloc _ _ k hk
  have hsA : WA.heap.size = W.heap.size + 1 := by rw [← hWA]; simp
  have hgA : W.grownBy WA none := by rw [← hWA]; exact World.grownBy_alloc _ _ _
  have hkA : KeepsWalks W WA := by rw [← hWA]; exact KeepsWalks.alloc _ _
  have hnew : WA.heap[W.heap.size]? = some (.cells #[Value.int IntKind.i64 x.1, Value.int IntKind.i64 x.2] 46 (0, 0)) := by rw [← hWA]; exact World.alloc_heap_new W _
  have hLA := (old l hl0).trans h.L
  have hbA : Below w0.heap.size w0 WA := by rw [← hWA]; exact h.below.alloc h.below.size _
  have hrowA : WA.ownsRow w0.heap.size 46 2 v ss.length (flatK ss) := by rw [← hWA]; exact hrow.alloc _
  have hbr := run_beginRound (P := Tryz.prog) hLA rfl
  obtain ⟨W2, hW2⟩ : ∃ W2, WA.putObj l (.loop { apRecK fn sv Bs D .ready none with state := .busy }) = W2 := ⟨_, rfl⟩
  rw [hW2] at hbr
  have hg2 : WA.grownBy W2 (some l) := by rw [← hW2]; exact grownBy_putObj_a _ _ _
  have hs2 : W2.heap.size = WA.heap.size := by rw [← hW2]; simp
  have hk2 : KeepsWalks W W2 := hkA.trans (by rw [← hW2]; exact KeepsWalks.putObj _ hLA rfl)
  have hv2 : W2.heap[Bs]? = some (.cells #[v] 206 (0, 0)) := by rw [← hW2]; exact (World.putObj_heap_other hBl).trans ((old Bs hB0).trans hv)
  have hK2 : W2.heap[D]? = some (.deferred (some [])) := by rw [← hW2]; exact (World.putObj_heap_other hDl).trans ((old D hD0).trans h.K)
  have hL2 : W2.heap[l]? = some (.loop { apRecK fn sv Bs D .ready none with state := .busy }) := by rw [← hW2]; exact World.putObj_heap_same (by omega)
  have hn2 : W2.heap[W.heap.size]? = some (.cells #[Value.int IntKind.i64 x.1, Value.int IntKind.i64 x.2] 46 (0, 0)) := by rw [← hW2]; exact (World.putObj_heap_other (by omega)).trans hnew
  have hrow2 : W2.ownsRow w0.heap.size 46 2 v ss.length (flatK ss) := hrowA.kept hg2 (ownsRow_ne_a hrowA hLA (fun cur e => by first | cases e | exact hne (Obj.cells.inj e).2.1))
  have hb2 : Below w0.heap.size w0 W2 := hbA.grown hg2 hbA.size (fun k e => by cases e; exact h0l)
  obtain ⟨hc2, hf2⟩ := cell_of_box_a hv2
  have hx0 : W2.cell? ⟨W.heap.size, 0, none⟩ = some (.int .i64 x.1) := by simp [World.cell?, hn2]
  have hx1 : W2.cell? ⟨W.heap.size, 1, none⟩ = some (.int .i64 x.2) := by simp [World.cell?, hn2]
  have hBlt : Bs < W2.heap.size := (Array.getElem?_eq_some_iff.1 hv2).1
  have hl2 : l < W2.heap.size := (Array.getElem?_eq_some_iff.1 hL2).1
  have hDlt : D < W2.heap.size := (Array.getElem?_eq_some_iff.1 hK2).1
  have ne_of : ∀ {j : Nat} {o : Obj}, W2.heap[j]? = some o → (∀ cur, o ≠ .cells cur 46 (0, 0)) → some j ≠ v.ownBlock := fun hj hno => by
    rcases ownsRow_ne_a hrow2 hj hno with e | e
    · rw [e]; simp
    · exact fun e' => e e'.symm
  have hs2le : W.heap.size + 1 ≤ W2.heap.size := by omega
  clear hW2 hs2 hsA
  unfold encK
  unfold apAssignK
  gi_wp2_with gi_round_op_a
  clear hWA
  unfold apBodyK
  gi_wp2_with (first
    | (gi_at_builtin; refine wpListIn_append_own _ rfl _ _ 206 rfl w0.heap.size 46 i0 _ 2 16 Tryz.underlying206 hi hz0 hz1 hz2 rfl (by decide) _ _ _ rfl (hrow2.alloc _) ⟨W2.heap.size, 0, none⟩ 1 1 [.int .i64 x.1, .int .i64 x.2] rfl rfl (World.news_of_block (World.alloc_heap_new W2 _)) (news2_one _ _) (by unfold maxLen; omega) (by omega) (by have := hb2.size; simp; omega) ?_; intro v' w3 hown' hg3 hnil3
       have hv3 : w3.heap[Bs]? = some (.cells #[v] 206 (0, 0)) := (hg3.block Bs (by simp; omega) (ne_of hv2 (fun cur e => by first | cases e | exact hne (Obj.cells.inj e).2.1))).trans ((Below.heap_alloc _ _ Bs hBlt).trans hv2)
       obtain ⟨hc3, hf3⟩ := cell_of_box_a hv3
       obtain ⟨g', cap', cur', rfl, hbase', hgb', hr1, hr2, hr3, hr4⟩ : ∃ g' cap' cur', v' = .slice (some ⟨g', 0, none⟩) (ss.length + 1) cap' ∧ w0.heap.size ≤ g' ∧ w3.heap[g']? = some (.cells cur' 46 (0, 0)) ∧ ss.length + 1 ≤ cap' ∧ cap' ≤ maxLen ∧ cur'.size = cap' * 2 ∧ cur'.toList.take ((ss.length + 1) * 2) = flatK ss ++ [.int .i64 x.1, .int .i64 x.2] := by
         rcases hown'.2 with ⟨_, h0⟩ | h'
         · exact absurd h0 (by omega)
         · exact h'
       go_frame)
    | gi_round_op_a)
  have hg3' : (W2.alloc (.cells #[.int .i64 x.1, .int .i64 x.2] 46)).grownBy w3 v.ownBlock := hg3
  have hL3 : w3.heap[l]? = some (.loop { apRecK fn sv Bs D .ready none with state := .busy }) := (hg3'.block l (by simp; omega) (ne_of hL2 (fun cur e => by first | cases e | exact hne (Obj.cells.inj e).2.1))).trans ((Below.heap_alloc _ _ l hl2).trans hL2)
  have hK3 : w3.heap[D]? = some (.deferred (some [])) := (hg3'.block D (by simp; omega) (ne_of hK2 (fun cur e => by first | cases e | exact hne (Obj.cells.inj e).2.1))).trans ((Below.heap_alloc _ _ D hDlt).trans hK2)
  obtain ⟨w4, hw4⟩ : ∃ w4, w3.setCell ⟨Bs, 0, none⟩ (.slice (some ⟨g', 0, none⟩) (ss.length + 1) cap') = w4 := ⟨_, rfl⟩
  rw [hw4]
  have hg4 : w3.grownBy w4 (some Bs) := by rw [← hw4]; exact grownBy_setCell0_a _ _ _
  have hv4 : w4.heap[Bs]? = some (.cells #[.slice (some ⟨g', 0, none⟩) (ss.length + 1) cap'] 206 (0, 0)) := by rw [← hw4]; exact heap_setCell_box_a _ hv3
  have hL4 : w4.heap[l]? = some (.loop { apRecK fn sv Bs D .ready none with state := .busy }) := (hg4.block l (Array.getElem?_eq_some_iff.1 hL3).1 (fun e => hBl (by cases e; rfl))).trans hL3
  have hK4 : w4.heap[D]? = some (.deferred (some [])) := (hg4.block D (Array.getElem?_eq_some_iff.1 hK3).1 (fun e => hDB (by cases e; rfl))).trans hK3
  have hrow4 := hown'.kept hg4 (ownsRow_ne_a hown' hv3 (fun cur e => by first | cases e | exact hne (Obj.cells.inj e).2.1))
  have hl4 : l < w4.heap.size := (Array.getElem?_eq_some_iff.1 hL4).1
  have hb3 : Below w0.heap.size w0 w3 := (hb2.alloc hb2.size _).grown hg3' (by have := hb2.size; simp; omega) (fun k e => (hrow2.lt k e).1)
  have hb4 : Below w0.heap.size w0 w4 := hb3.grown hg4 hb3.size (fun k e => by cases e; exact h0B)
  have hk4 : KeepsWalks W w4 := ((hk2.trans (KeepsWalks.alloc _ _)).trans (KeepsWalks.of_grownBy hg3' (ownsRow_not_walk_a (hrow2.alloc _)))).trans (by rw [← hw4]; exact KeepsWalks.setCell _ _ _)
  clear hw4
  refine ⟨_, _, run_endRound none hL4, rfl, ⟨⟨_, (World.putObj_heap_other hBl).trans hv4, ?_, by simp⟩, World.putObj_heap_same hl4, (World.putObj_heap_other hDl).trans hK4, hb4.grown (grownBy_putObj_a _ _ _) hb4.size (fun k e => by cases e; exact h0l)⟩, hk4.trans (KeepsWalks.putObj _ hL4 rfl)⟩
  have := hrow4.kept (grownBy_putObj_a w4 l (.loop { { apRecK fn sv Bs D .ready none with state := .busy } with state := if (none : Option Code).isNone then .ready else .done, pending := none })) (ownsRow_ne_a hrow4 hL4 (fun cur e => by first | cases e | exact hne (Obj.cells.inj e).2.1))
  rw [flatK_snoc]
  simpa [cells2] using this

set_option maxHeartbeats 4000000 in
theorem appendSeq_in (n : Nat) (hn : 2 ≤ n) (g : Nat) (lb : Array Value) (eg : ∀ args w, (callFunc g args).run Tryz.prog w = .ok (.enter g args) w)
    (S : List (Int × Int) → Prop) (N : Nat) (hN : N ≤ 1048576) (w : World) (hseq : SeqGives Fence.wide (n - 1) Tryz.prog g lb encK S N w) :
    CallsIn Fence.wide n Tryz.prog 156 #[.slice none 0 0, .func (.func g) #[] lb] w fun e w' => ∃ (v : Value) (ss : List (Int × Int)), e = .returned v ∧ S ss ∧ w'.ownsRow w.heap.size 46 2 v ss.length (flatK ss) ∧ (v = .slice none 0 0 ↔ ss = []) ∧ Below w.heap.size w w' := by
  have h1 : 1 ≤ n := by omega
  have hro : Fence.wide.round = none := rfl
  have hne : (206 : Nat) ≠ 46 := by decide
  refine callsIn_of_wp_marks Tryz.func156 rfl trivial ?_ hro
  simp only [Tryz.ntmps156, List.size_toArray, List.length_cons, List.length_nil, Nat.reduceAdd, Nat.reduceSub, Array.replicate_succ, Array.replicate_zero, List.push_toArray, List.append_toArray, List.nil_append, List.cons_append]
  gi_wp2
  refine wpIn_rangeFunc ?_
  intro fn hfn
  rw [hro]
  obtain ⟨W0, hW0⟩ : ∃ W0, w.alloc (.cells #[.slice none 0 0] 206) = W0 := ⟨_, rfl⟩
  have hs0 : W0.heap.size = w.heap.size + 1 := by rw [← hW0]; simp
  have hv0 : W0.heap[w.heap.size]? = some (.cells #[.slice none 0 0] 206 (0, 0)) := by rw [← hW0]; exact World.alloc_heap_new w _
  have hb0 : Below w.heap.size w W0 := by rw [← hW0]; exact (Below.refl _ w).alloc (Nat.le_refl _) _
  rw [hW0]
  obtain ⟨W1, hW1⟩ : ∃ W1, (W0.alloc (.deferred (some []))).alloc (.loop (apRecK fn (.func (.func g) #[] lb) w.heap.size W0.heap.size .ready none)) = W1 := ⟨_, rfl⟩
  have hold : ∀ k, k < W0.heap.size → W1.heap[k]? = W0.heap[k]? := fun k hk => by
    rw [← hW1]; exact (Below.heap_alloc _ _ k (by simp; omega)).trans (Below.heap_alloc _ _ k hk)
  have hb1 : Below w.heap.size w W1 := by rw [← hW1]; exact (hb0.alloc hb0.size _).alloc (by have := hb0.size; simp; omega) _
  have hs1 : W1.heap.size = W0.heap.size + 2 := by rw [← hW1]; simp
  have hM : ApK w fn (.func (.func g) #[] lb) w.heap.size (W0.heap.size + 1) W0.heap.size [] W1 :=
    ⟨⟨_, (hold w.heap.size (by omega)).trans hv0, ⟨rfl, .inl ⟨rfl, rfl⟩⟩, by simp⟩,
     by rw [← hW1]; have := World.alloc_heap_new (W0.alloc (.deferred (some []))) (.loop (apRecK fn (.func (.func g) #[] lb) w.heap.size W0.heap.size .ready none)); rwa [World.size_alloc] at this,
     by rw [← hW1]; exact (Below.heap_alloc _ _ _ (by simp)).trans (World.alloc_heap_new W0 _), hb1⟩
  refine ⟨W0.heap.size + 1, [{ target := .collected W0.heap.size, args := #[] }], W1, { target := .fn (.func g) lb, args := #[.func (.yield (W0.heap.size + 1)) #[] #[]] }, W1, g,
    #[.func (.yield (W0.heap.size + 1)) #[] #[]] ++ lb, W1, ?_, ?_, ?_, ?_, fun _ => h1, ?_⟩
  · rw [← hW1]; exact run_enterLoop_outer _ _ _ _ _
  · simp [resolve, go_sem]
  · intro f' hf'; trivial
  · simp [invoke, go_sem, eg]
  · refine (hseq (W0.heap.size + 1) (ApK w fn (.func (.func g) #[] lb) w.heap.size (W0.heap.size + 1) W0.heap.size) W1 hb1 (ap_abidesK _ _ _ _ _ _ _ hb1.size)
      (fun pre x W hJ hl => apYieldK (n - 1 - 1) w fn _ w.heap.size (W0.heap.size + 1) W0.heap.size (by omega) (by omega) (by omega) (Nat.le_refl _) (by omega) N hN pre x W hJ hl) hM).mono ?_
    rintro e W2 ⟨⟨v0, rfl⟩, ss, hS, h2⟩
    obtain ⟨v, hv, hrow, hnil⟩ := h2.box
    have hend := run_endLoop (P := Tryz.prog) h2.L (by simp [apRecK])
    obtain ⟨W3, hW3⟩ : ∃ W3, W2.putObj (W0.heap.size + 1) (.loop { apRecK fn (.func (.func g) #[] lb) w.heap.size W0.heap.size .ready none with state := .exhausted }) = W3 := ⟨_, rfl⟩
    rw [hW3] at hend
    have hg3 : W2.grownBy W3 (some (W0.heap.size + 1)) := by rw [← hW3]; exact grownBy_putObj_a _ _ _
    have hv3 : W3.heap[w.heap.size]? = some (.cells #[v] 206 (0, 0)) := by rw [← hW3]; exact (World.putObj_heap_other (by omega)).trans hv
    have hK3 : W3.heap[W0.heap.size]? = some (.deferred (some [])) := by rw [← hW3]; exact (World.putObj_heap_other (by omega)).trans h2.K
    have hrow3 := hrow.kept hg3 (ownsRow_ne_a hrow h2.L (fun cur e => by first | cases e | exact hne (Obj.cells.inj e).2.1))
    have hb3 : Below w.heap.size w W3 := h2.below.grown hg3 h2.below.size (fun k e => by cases e; omega)
    obtain ⟨hc3, hf3⟩ := cell_of_box_a hv3
    clear hW3
    refine ⟨none, W3, hend, ?_⟩
    gi_wp2
    rw [← hs0]
    refine ⟨by simp, .inl ⟨_, _, rfl, run_takeDeferred hK3, ?_⟩⟩
    exact ⟨_, results_tmp rfl _ _ _, v, ss, rfl, hS, hrow3.kept (grownBy_putObj_a _ _ _) (ownsRow_ne_a hrow3 hK3 (fun cur e => by first | cases e | exact hne (Obj.cells.inj e).2.1)), hnil, hb3.grown (grownBy_putObj_a _ _ _) hb3.size (fun k e => by cases e; omega)⟩

set_option maxHeartbeats 1000000 in
theorem collect_in (n : Nat) (hn : 3 ≤ n) (g : Nat) (lb : Array Value) (eg : ∀ args w, (callFunc g args).run Tryz.prog w = .ok (.enter g args) w)
    (S : List (Int × Int) → Prop) (N : Nat) (hN : N ≤ 1048576) (w : World) (hseq : SeqGives Fence.wide (n - 1 - 1) Tryz.prog g lb encK S N w) :
    CallsIn Fence.wide n Tryz.prog 153 #[.func (.func g) #[] lb] w fun e w' => ∃ (v : Value) (ss : List (Int × Int)), e = .returned v ∧ S ss ∧ w'.ownsRow w.heap.size 46 2 v ss.length (flatK ss) ∧ (v = .slice none 0 0 ↔ ss = []) ∧ Below w.heap.size w w' := by
  have hf72 : Fence.wide.fn 156 := trivial
  refine callsIn_of_wp Tryz.func153 rfl trivial ?_ rfl
  simp only [Tryz.ntmps153, List.size_toArray, List.length_cons, List.length_nil, Nat.reduceAdd, Nat.reduceSub, Array.replicate_succ, Array.replicate_zero, List.push_toArray, List.append_toArray, List.nil_append, List.cons_append]
  gi_wp2_with ((first | refine ⟨fun _ => by omega, ?_⟩ | skip); gi_at_call 156; refine (appendSeq_in (n - 1) (by omega) g lb eg S N hN _ hseq).mono ?_; rintro e w' ⟨v, ss, rfl, hS, hrow, hnil, hb⟩)
  go_ret
  exact ⟨v, ss, rfl, hS, hrow, hnil, hb⟩

end Go.Proofs.YtmecbppblbmchaaGreatDoor
