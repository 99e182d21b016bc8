import Derived.Test.YtmecbppblbmchaaGreatDoorKeysIt
import Derived.Test.YtmecbppblbmchaaGreatDoorSorted
import Derived.Deep.AppendLies
import Derived.Laws.OwnMore
/- impl.storeOf: the chains of a map, sorted by their keys, each list copied. -/
namespace Go.Proofs.YtmecbppblbmchaaGreatDoor
open Go.ChangeShapes Go.WideShapes Go.ChangeAt Go.RowKit Go.Maps Go.Sort
set_option linter.unusedVariables false
set_option maxRecDepth 100000
attribute [local go_sem ↓] Go.wp_at_zero Go.wp_at_succ

theorem gb_trans {a b c : World} {row : Option Nat} (h : a.grownBy b row) (k : b.grownBy c row) : a.grownBy c row :=
  ⟨k.os.trans h.os, k.tape.trans h.tape, k.output.trans h.output, Nat.le_trans h.size k.size, fun j hj hne => (k.block j (Nat.lt_of_lt_of_le hj h.size) hne).trans (h.block j hj hne)⟩
theorem gb_below {a b : World} (row : Option Nat) (h : Below a.heap.size a b) : a.grownBy b row := ⟨h.os, h.tape, h.output, h.size, fun j hj _ => h.block j hj⟩

/-- The chains of the keys ks, whose lists g tells. -/
def chainsOf (ks : List Vr) (g : Int → Int → List Vr) : List Ch := ks.map fun x => ⟨x.1, x.2, g x.1 x.2⟩
theorem chainsOf_length (ks : List Vr) (g : Int → Int → List Vr) : (chainsOf ks g).length = ks.length := by simp [chainsOf]
theorem chainsOf_at (ks : List Vr) (g : Int → Int → List Vr) {i : Nat} (hi : i < ks.length) : cAt (chainsOf ks g) i = ⟨(vAt ks i).1, (vAt ks i).2, g (vAt ks i).1 (vAt ks i).2⟩ := by
  simp [chainsOf, cAt, vAt, List.getD, List.getElem?_map, List.getElem?_eq_getElem hi]

/-- The i-th key's list. -/
def lAt (ks : List Vr) (g : Int → Int → List Vr) (i : Nat) : List Vr := g (vAt ks i).1 (vAt ks i).2
def cell3 (ks : List Vr) (g : Int → Int → List Vr) (Bs : Nat → Nat) (i : Nat) : List Value := [.int .i64 (vAt ks i).1, .int .i64 (vAt ks i).2, .slice (some ⟨Bs i, 0, none⟩) (lAt ks g i).length (lAt ks g i).length]
def ccells (ks : List Vr) (g : Int → Int → List Vr) (Bs : Nat → Nat) (k : Nat) : List Value := (List.range k).flatMap (cell3 ks g Bs)

theorem ccells_congr (ks : List Vr) (g : Int → Int → List Vr) {Bs Bs' : Nat → Nat} : ∀ (k : Nat), (∀ i, i < k → Bs i = Bs' i) → ccells ks g Bs k = ccells ks g Bs' k
  | 0, _ => rfl
  | k + 1, h => by
    have ih := ccells_congr ks g (Bs := Bs) (Bs' := Bs') k (fun i hi => h i (by omega))
    unfold ccells at ih ⊢
    rw [List.range_succ, List.flatMap_append, List.flatMap_append, ih]
    simp [cell3, h k (by omega)]
theorem ccells_snoc (ks : List Vr) (g : Int → Int → List Vr) (Bs : Nat → Nat) (k B : Nat) : ccells ks g (upd Bs k B) (k + 1) = ccells ks g Bs k ++ [.int .i64 (vAt ks k).1, .int .i64 (vAt ks k).2, .slice (some ⟨B, 0, none⟩) (lAt ks g k).length (lAt ks g k).length] := by
  rw [ccells_congr ks g (Bs := Bs) (Bs' := upd Bs k B) k (fun i hi => (upd_other Bs (by omega)).symm)]
  unfold ccells
  rw [List.range_succ, List.flatMap_append]
  simp [cell3, upd_same]
theorem ccells_length (ks : List Vr) (g : Int → Int → List Vr) (Bs : Nat → Nat) (k : Nat) : (ccells ks g Bs k).length = k * 3 := by
  induction k with
  | zero => rfl
  | succ k ih => unfold ccells at ih ⊢; rw [List.range_succ, List.flatMap_append, List.length_append, ih]; simp [cell3]; omega
theorem ccells_get (ks : List Vr) (g : Int → Int → List Vr) (Bs : Nat → Nat) : ∀ (k i : Nat), i < k → (ccells ks g Bs k)[i * 3]? = some (.int .i64 (vAt ks i).1) ∧ (ccells ks g Bs k)[i * 3 + 1]? = some (.int .i64 (vAt ks i).2) ∧ (ccells ks g Bs k)[i * 3 + 2]? = some (.slice (some ⟨Bs i, 0, none⟩) (lAt ks g i).length (lAt ks g i).length)
  | 0, i, h => absurd h (Nat.not_lt_zero _)
  | k + 1, i, h => by
    have hl := ccells_length ks g Bs k
    have e : ccells ks g Bs (k + 1) = ccells ks g Bs k ++ cell3 ks g Bs k := by unfold ccells; rw [List.range_succ, List.flatMap_append]; simp
    rw [e]
    by_cases hi : i < k
    · obtain ⟨h1, h2, h3⟩ := ccells_get ks g Bs k i hi
      rw [List.getElem?_append_left (by omega), List.getElem?_append_left (by omega), List.getElem?_append_left (by omega)]
      exact ⟨h1, h2, h3⟩
    · obtain rfl : i = k := by omega
      rw [List.getElem?_append_right (by omega), List.getElem?_append_right (by omega), List.getElem?_append_right (by omega), hl]
      refine ⟨?_, ?_, ?_⟩
      · rw [show i * 3 - i * 3 = 0 by omega]; rfl
      · rw [show i * 3 + 1 - i * 3 = 1 by omega]; rfl
      · rw [show i * 3 + 2 - i * 3 = 2 by omega]; rfl

/-- The value v is nil and l has no chain, or v owns the chains l, in blocks from lo on. -/
def OwnS (lo : Nat) (w : World) (v : Value) (l : List Ch) : Prop := (v = .slice none 0 0 ∧ l = []) ∨ ∃ b Bs cap, v = .slice (some ⟨b, 0, none⟩) l.length cap ∧ OwnC lo w.heap.size w b Bs l

/-- The first k lists are owned, apart, and apart from ov's own row. -/
def Lists (base : Nat) (w : World) (ov : Value) (ks : List Vr) (g : Int → Int → List Vr) (Bs : Nat → Nat) (k : Nat) : Prop :=
  (∀ i, i < k → OwnV w (Bs i) (lAt ks g i) ∧ base ≤ Bs i ∧ some (Bs i) ≠ ov.ownBlock) ∧ ∀ i j, i < j → j < k → Bs i ≠ Bs j

theorem ownS_of {base lo : Nat} {w : World} {ov : Value} {ks : List Vr} {g : Int → Int → List Vr} {Bs : Nat → Nat} (hlo : lo ≤ base) (h : w.ownsRow base 94 3 ov ks.length (ccells ks g Bs ks.length)) (hl : Lists base w ov ks g Bs ks.length) : OwnS lo w ov (chainsOf ks g) := by
  obtain ⟨h1, ⟨h2, h3⟩ | ⟨b, cap, cur, rfl, hb, hh, hcap, hm, hc, ht⟩⟩ := h
  · exact .inl ⟨h2, by rw [List.eq_nil_of_length_eq_zero h3]; rfl⟩
  · have hbl : b < w.heap.size := (Array.getElem?_eq_some_iff.1 hh).1
    refine .inr ⟨b, Bs, cap, by rw [chainsOf_length], by omega, hbl, fun j => (ccells ks g Bs ks.length).getD j (.int .i64 0), ⟨cur, hh, by rw [chainsOf_length, hc]; omega, fun j hj => ?_⟩, fun i hi => ?_, fun i j hij hj => hl.2 i j hij (by rwa [chainsOf_length] at hj)⟩
    · rw [chainsOf_length] at hj
      have e : (cur.toList.take (ks.length * 3))[j]? = (ccells ks g Bs ks.length)[j]? := by rw [ht]
      rw [List.getElem?_take_of_lt hj, Array.getElem?_toList] at e
      rw [e]
      have hj' : j < (ccells ks g Bs ks.length).length := by rw [ccells_length]; exact hj
      simp [List.getD, List.getElem?_eq_getElem hj']
    · rw [chainsOf_length] at hi
      obtain ⟨g1, g2, g3⟩ := ccells_get ks g Bs ks.length i hi
      obtain ⟨k1, k2, k3⟩ := hl.1 i hi
      rw [chainsOf_at ks g hi]
      refine ⟨by simp [List.getD, g1], by simp [List.getD, g2], ⟨_, Nat.le_refl _, by simp only [List.getD, g3]; rfl⟩, k1, by omega, k1.lt, fun e => k3 (by rw [e]; rfl)⟩

/-- A slice that owns keys, as it is read. -/
theorem versAt_of_owns {base : Nat} {w : World} {v : Value} {ks : List Vr} {T : TypeId} (h : w.ownsRow base T 2 v ks.length (flatK ks)) (hm : ks.length ≤ maxLen) : VersAt base w.heap.size w v ks := by
  have h0 := h
  obtain ⟨h1, ⟨h2, h3⟩ | ⟨b, cap, cur, rfl, hb, hh, hcap, hm, hc, ht⟩⟩ := h
  · exact ⟨none, 0, by rw [h2, h3], hm, fun hp => absurd hp (by omega)⟩
  · refine ⟨_, cap, rfl, by omega, fun _ => ⟨b, 0, rfl, hb, (Array.getElem?_eq_some_iff.1 hh).1, fun i hi => ?_⟩⟩
    obtain ⟨g1, g2⟩ := vcells_get ks i hi
    have e1 := h0.cellAt (i * 2) (by omega)
    have e2 := h0.cellAt (i * 2 + 1) (by omega)
    rw [show (flatK ks)[i * 2]? = _ from g1] at e1
    rw [show (flatK ks)[i * 2 + 1]? = _ from g2] at e2
    exact ⟨by simpa using e1, by simpa using e2⟩

theorem infoChain' : (Tryz.prog.info? 94).map (fun i => (i.zero, i.size, i.bytes)) = some (some (.agg #[.int .i64 0, .int .i64 0, .slice none 0 0]), 3, 40) := by kernel_rfl
theorem build_chain (t r : Int) (v : Value) (hv : v.oneCell' = true) (w : World) : (Instr.build 94 #[(0, .agg #[.int .i64 t, .int .i64 r]), (1, v)]).run Tryz.prog w = .ok (.agg #[.int .i64 t, .int .i64 r, v]) w := by
  cases v <;> first | (simp [Value.oneCell'] at hv; done) | kernel_rfl

theorem ownsMap_of_block {w x : World} {b n : Nat} {D : DataW Value} (h : w.ownsMap Tryz.prog 46 KV b n D) (e : x.heap[b]? = w.heap[b]?) : x.ownsMap Tryz.prog 46 KV b n D := by
  obtain ⟨es, clock, hb, Ft, hs, hD⟩ := h
  exact ⟨es, clock, e.trans hb, Ft, hs, hD⟩

end Go.Proofs.YtmecbppblbmchaaGreatDoor
