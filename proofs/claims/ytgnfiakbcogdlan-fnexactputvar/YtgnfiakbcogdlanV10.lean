/- spec.PutVar; owned variables, read and free. -/
import Derived.Test.YtgnfiakbcogdlanVMark
namespace Go.Proofs.Ytgnfiakbcogdlan
open Go.ChangeShapes Go.WideShapes Go.ChangeAt Go.RowKit Go.Maps Go.Deep Go.Joins Go.Sort Go.Shelf
set_option linter.unusedVariables false
set_option maxRecDepth 100000
attribute [local go_sem ↓] Go.wp_at_zero Go.wp_at_succ

theorem specPutVar_any (va : Value) (l : List Va) (s : ByteArray) (v : Int) (w : World) {lo hi : Nat} (h : VarsAt lo hi w va l) (hhi : hi ≤ w.heap.size) (hw : WfVa l) (hn : SmallV l) (hs : s.size ≤ 1048576) :
    Calls Try.prog 21 #[va, .string s, .int .i64 v] w fun e w' => PVAns w.heap.size w' l s v e ∧ Below w.heap.size w w' := by
  obtain ⟨a, cap, hv⟩ : ∃ a cap, va = .slice a l.length cap := by obtain ⟨a, cap, h1, _⟩ := h; exact ⟨a, cap, h1⟩
  subst hv
  go_enter Try.func21, Try.ntmps21
  go_wp2_with fail
  refine (specVarsOk_any _ l _ h hn.1).mono ?_
  rintro e w1 ⟨⟨q, rfl, hq⟩, b1⟩
  by_cases hok : varsOk l
  · obtain rfl : q = true := hq.2 hok
    clear hq
    have hz1 := b1.size
    go_wp2_with fail
    refine (l6put_any _ l s v _ (h.stays b1) hn.1 (by omega)).mono ?_
    rintro e w3 ⟨v3, rfl, hown, hb3⟩
    go_wp2
    go_ret
    exact ⟨⟨_, _, rfl, .inl ⟨hok, putV_is hok hw (by unfold maxLen; omega) v⟩, putV_len _ _ _, hown.mono hz1⟩, b1.trans (hb3.mono b1.size)⟩
  · obtain rfl : q = false := says_false hq hok
    clear hq
    go_wp2
    go_ret
    exact ⟨⟨_, [], rfl, .inr ⟨hok, rfl⟩, Nat.zero_le _, World.ownsRow_nil _ _ _ _⟩, b1⟩

theorem putv_one {l rs rs' : List Va} {s : ByteArray} {v : Int} (h : (varsOk l ∧ VarsOf (putS (firstV l) s v) rs) ∨ (¬ varsOk l ∧ rs = [])) (h' : (varsOk l ∧ VarsOf (putS (firstV l) s v) rs') ∨ (¬ varsOk l ∧ rs' = [])) : rs' = rs := by
  rcases h with ⟨a1, a3⟩ | ⟨a1, rfl⟩ <;> rcases h' with ⟨b1, b3⟩ | ⟨b1, rfl⟩
  · exact b3.one a3
  · exact absurd a1 b1
  · exact absurd b1 a1
  · rfl

/-- Rows of two cells that may be written. -/
def FreeR (base : Nat) (w : World) (a : Option Addr) (n : Nat) : Prop := 0 < n → ∃ g, a = some ⟨g, 0, none⟩ ∧ base ≤ g ∧ g < w.heap.size ∧ FreeV w g n
theorem FreeR.keep {base : Nat} {w w' : World} {a : Option Addr} {n : Nat} (h : FreeR base w a n) (hz : w.heap.size ≤ w'.heap.size) (hk : ∀ k, base ≤ k → k < w.heap.size → w'.heap[k]? = w.heap[k]?) : FreeR base w' a n := fun hp => by
  obtain ⟨g, h1, h2, h3, h4⟩ := h hp
  refine ⟨g, h1, h2, by omega, fun j hj => ?_⟩
  have e := hk g h2 h3
  rw [World.cell?_of_block (w := w) (a := ⟨g, j, none⟩) e, World.frozen?_of_block (w := w) (a := ⟨g, j, none⟩) e]
  exact h4 j hj
theorem FreeR.stays {base : Nat} {w w' : World} {a : Option Addr} {n : Nat} (h : FreeR base w a n) (hb : Below w.heap.size w w') : FreeR base w' a n := h.keep hb.size fun k _ hk => hb.block k hk

theorem vars_of_owns {w : World} {base : Nat} {v : Value} {l : List Va} (h : w.ownsRow base 79 2 v l.length (flatV l)) (hm : l.length ≤ 1048580) : ∃ a cap, v = .slice a l.length cap ∧ VarsAt base w.heap.size w (.slice a l.length cap) l ∧ FreeR base w a l.length := by
  have h0 := h
  obtain ⟨h1, ⟨h2, h3⟩ | ⟨b, cap, cur, rfl, hb, hh, hcap, hm', hc, ht⟩⟩ := h
  · exact ⟨none, 0, by rw [h2, h3], ⟨none, 0, by rw [h3], by unfold maxLen; omega, fun hp => absurd hp (by omega)⟩, fun hp => absurd hp (by omega)⟩
  · have hlt := (Array.getElem?_eq_some_iff.1 hh).1
    refine ⟨_, cap, rfl, ⟨_, cap, rfl, by unfold maxLen; omega, fun _ => ⟨b, 0, rfl, hb, hlt, fun i hi => ?_⟩⟩, fun _ => ⟨b, rfl, hb, hlt, fun j hj => ⟨?_, ?_⟩⟩⟩
    · obtain ⟨g1, g2⟩ := flatV_get l i hi
      have e1 := h0.cellAt (i * 2) (by omega)
      have e2 := h0.cellAt (i * 2 + 1) (by omega)
      rw [g1] at e1
      rw [g2] at e2
      exact ⟨by simpa using e1, by simpa using e2⟩
    · have hjl : j < (flatV l).length := by rw [flatV_length]; exact hj
      have e1 := h0.cellAt j hj
      rw [List.getElem?_eq_getElem hjl] at e1
      exact ⟨_, e1⟩
    · simp [World.frozen?, hh]
theorem OwnVa.free {w : World} {b : Nat} {l : List Va} (h : OwnVa w b l) (base : Nat) (hb : base ≤ b) : FreeR base w (some ⟨b, 0, none⟩) l.length := fun _ => by
  have hlt := h.lt
  obtain ⟨f, h1, h2⟩ := h
  exact ⟨b, rfl, hb, hlt, fun j hj => ⟨⟨_, h1.cell hj⟩, h1.frozen j⟩⟩
theorem toVarS_ex (v : Value) (l : List Va) (w : World) {lo hi : Nat} (h : VarsAt lo hi w v l) (hn : l.length ≤ 1048576) :
    Calls Try.prog 16 #[v] w fun e w' => ∃ B, e = .returned (.slice (some ⟨B, 0, none⟩) l.length l.length) ∧ OwnVa w' B l ∧ w.heap.size ≤ B ∧ Below w.heap.size w w' :=
  (toVarS_own v l w h hn).mono fun e w' ⟨h1, h2, h3⟩ => ⟨_, h1, h2, Nat.le_refl _, h3⟩
end Go.Proofs.Ytgnfiakbcogdlan
