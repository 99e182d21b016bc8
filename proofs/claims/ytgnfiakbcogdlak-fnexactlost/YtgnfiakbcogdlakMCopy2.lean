/- toMgr: a copy of the whole that is owned; and how great the whole is. -/
import Derived.Test.YtgnfiakbcogdlakMCopy
namespace Go.Proofs.Ytgnfiakbcogdlak
open Go.ChangeShapes Go.WideShapes Go.ChangeAt Go.RowKit Go.Sort
set_option linter.unusedVariables false
set_option maxRecDepth 100000
attribute [local go_sem ↓] Go.wp_at_zero Go.wp_at_succ

/-- A copy of the whole, owned: its three lists lie one behind the other. -/
def OwnM (lo hi : Nat) (w : World) (bs : Nat) (Bs : Nat → Nat) (bt : Nat) (Bt : Nat → Nat) (be : Nat) (m : Md) : Prop :=
  ∃ p q, OwnC lo p w bs Bs m.s ∧ OwnT2 p q w bt Bt m.x ∧ OwnE w be m.h ∧ p ≤ q ∧ q ≤ be ∧ be < hi

theorem OwnM.at {lo hi : Nat} {w : World} {bs : Nat} {Bs : Nat → Nat} {bt : Nat} {Bt : Nat → Nat} {be : Nat} {m : Md} (h : OwnM lo hi w bs Bs bt Bt be m) (hn : SmallM m) (cs ct ce : Nat) :
    MAt lo hi w (.slice (some ⟨bs, 0, none⟩) m.s.length cs) (.slice (some ⟨bt, 0, none⟩) m.x.length ct) (.slice (some ⟨be, 0, none⟩) m.h.length ce) m := by
  obtain ⟨p, q, h1, h2, h3, h4, h5, h6⟩ := h
  have hlo : lo ≤ p := by have := h1.1; have := h1.2.1; omega
  exact ⟨(h1.chains hn.s).wide (Nat.le_refl _) (by omega), (h2.txs hn.x hn.w).wide hlo (by omega), h3.evs (by omega) h6 hn.h⟩

set_option maxHeartbeats 1000000 in
theorem toMgr_own (vs vt ve : Value) (m : Md) (w : World) {lo hi : Nat} (h : MAt lo hi w vs vt ve m) (hn : SmallM m) :
    Calls Try.prog 6 #[.agg #[vs, .int .i64 m.c, .int .i64 m.n, vt, ve]] w fun e w' => ∃ bs Bs bt Bt be, e = .returned (.agg #[.slice (some ⟨bs, 0, none⟩) m.s.length m.s.length, .int .i64 m.c, .int .i64 m.n, .slice (some ⟨bt, 0, none⟩) m.x.length m.x.length, .slice (some ⟨be, 0, none⟩) m.h.length m.h.length]) ∧ OwnM w.heap.size w'.heap.size w' bs Bs bt Bt be m ∧ Below w.heap.size w w' := by
  obtain ⟨a1, caps, hvs⟩ : ∃ a cap, vs = .slice a m.s.length cap := by obtain ⟨a, cap, h1, _⟩ := h.s; exact ⟨a, cap, h1⟩
  obtain ⟨a2, capt, hvt⟩ : ∃ a cap, vt = .slice a m.x.length cap := by obtain ⟨a, cap, h1, _⟩ := h.x; exact ⟨a, cap, h1⟩
  obtain ⟨a3, cape, hve⟩ : ∃ a cap, ve = .slice a m.h.length cap := by obtain ⟨a, cap, h1, _⟩ := h.h; exact ⟨a, cap, h1⟩
  subst hvs hvt hve
  go_enter Try.func6, Try.ntmps6
  go_wp2_with fail
  have hb0 : Below w.heap.size w (((w.alloc (Obj.cells #[Value.slice a1 m.s.length caps, .int .i64 m.c, .int .i64 m.n, Value.slice a2 m.x.length capt, Value.slice a3 m.h.length cape] 28)).alloc (Obj.cells #[Value.slice none 0 0, .int .i64 0, .int .i64 0, Value.slice none 0 0, Value.slice none 0 0] 37)).alloc (Obj.cells #[Value.slice none 0 0, .int .i64 0, .int .i64 0, Value.slice none 0 0, Value.slice none 0 0] 37)) :=
    (((Below.refl _ _).alloc (Nat.le_refl _) _).alloc (by simp) _).alloc (by simp; omega) _
  refine (toStore_own _ m.s _ (h.s.stays hb0) hn.s).mono ?_
  rintro e w1 ⟨bs, Bs, rfl, hv1, hb1⟩
  obtain ⟨hc1, hf1⟩ := bcell hb1
  have hz1 : w.heap.size + 1 + 1 < w1.heap.size := by have := hb1.size; simp at this; omega
  have hb1x := hb0.trans (hb1.mono hb0.size)
  simp only [World.size_alloc] at hv1
  have hz1a : w.heap.size + 1 < w1.heap.size := by omega
  have hz1b : w.heap.size < w1.heap.size := by omega
  go_wp2_with fail
  have hbA : Below w.heap.size w (((w1.setCell ⟨w.heap.size + 1 + 1, 0, none⟩ (Value.slice (some ⟨bs, 0, none⟩) m.s.length m.s.length)).setCell ⟨w.heap.size + 1 + 1, 1, none⟩ (.int .i64 m.c)).setCell ⟨w.heap.size + 1 + 1, 2, none⟩ (.int .i64 m.n)) :=
    ((hb1x.setCell (by simp; omega) _).setCell (by simp; omega) _).setCell (by simp; omega) _
  refine (toTxS_own _ m.x _ (h.x.stays hbA) hn.x hn.w).mono ?_
  rintro e w2 ⟨Bt, rfl, hv2, hb2⟩
  obtain ⟨hc2, hf2⟩ := bcell hb2
  have hz2 : w1.heap.size ≤ w2.heap.size := by have := hb2.size; simp only [size_setCell] at this; exact this
  have hz2a : w.heap.size + 1 + 1 < w2.heap.size := by omega
  have hz2b : w.heap.size + 1 < w2.heap.size := by omega
  have hz2c : w.heap.size < w2.heap.size := by omega
  have hb2x := hbA.trans (hb2.mono hbA.size)
  simp only [size_setCell] at hv2
  go_wp2_with fail
  have hbB : Below w.heap.size w (w2.setCell ⟨w.heap.size + 1 + 1, 3, none⟩ (Value.slice (some ⟨w1.heap.size, 0, none⟩) m.x.length m.x.length)) := hb2x.setCell (by simp; omega) _
  refine (toEvS_own _ m.h _ (h.h.stays hbB) hn.h).mono ?_
  rintro e w3 ⟨rfl, hv3, hb3⟩
  obtain ⟨hc3, hf3⟩ := bcell hb3
  have hz3 : w2.heap.size ≤ w3.heap.size := by have := hb3.size; simp only [size_setCell] at this; exact this
  have hz3a : w.heap.size + 1 + 1 < w3.heap.size := by omega
  have hb3x := hbB.trans (hb3.mono hbB.size)
  simp only [size_setCell] at hv3
  go_wp2
  refine bodyPost_ret (v := .agg #[.slice (some ⟨bs, 0, none⟩) m.s.length m.s.length, .int .i64 m.c, .int .i64 m.n, .slice (some ⟨w1.heap.size, 0, none⟩) m.x.length m.x.length, .slice (some ⟨w2.heap.size, 0, none⟩) m.h.length m.h.length]) (by simp [results, Try.results6, go_sem, hc3, hc2, hc1, hz1a, hz2b]) rfl ⟨bs, Bs, w1.heap.size, Bt, w2.heap.size, rfl, ?_, ?_⟩
  · have hk : ∀ x, w.heap.size + 1 + 1 < x → ∀ u0 u1 u2 u3 u4 u5, ((((((w3.setCell ⟨w.heap.size + 1 + 1, 4, none⟩ u0).setCell ⟨w.heap.size + 1, 0, none⟩ u1).setCell ⟨w.heap.size + 1, 1, none⟩ u2).setCell ⟨w.heap.size + 1, 2, none⟩ u3).setCell ⟨w.heap.size + 1, 3, none⟩ u4).setCell ⟨w.heap.size + 1, 4, none⟩ u5).heap[x]? = w3.heap[x]? := fun x hx u0 u1 u2 u3 u4 u5 => by
      iterate 6 rw [Below.heap_setCell _ _ _ _ (by simp; omega)]
    have k3 : ∀ x, w.heap.size + 1 + 1 < x → x < w2.heap.size → w3.heap[x]? = w2.heap[x]? := fun x hx hx2 => by
      rw [hb3.block x (by simp only [size_setCell]; exact hx2), Below.heap_setCell _ _ _ _ (by simp; omega)]
    have k2 : ∀ x, w.heap.size + 1 + 1 < x → x < w1.heap.size → w2.heap[x]? = w1.heap[x]? := fun x hx hx2 => by
      rw [hb2.block x (by simp only [size_setCell]; exact hx2)]
      iterate 3 rw [Below.heap_setCell _ _ _ _ (by simp; omega)]
    refine ⟨w1.heap.size, w2.heap.size, (hv1.keep fun x h1 h2 h3 => ?_).wide (by omega) (Nat.le_refl _), hv2.keep fun x h1 h2 h3 => ?_, hv3.of_block (hk _ (by omega) _ _ _ _ _ _), hz2, Nat.le_refl _, ?_⟩
    · rw [hk x (by omega), k3 x (by omega) (by omega), k2 x (by omega) h3]
    · rw [hk x (by omega), k3 x (by omega) h3]
    · simp only [size_setCell]; exact hv3.lt
  · exact (((((hb3x.setCell (by simp; omega) _).setCell (by simp) _).setCell (by simp) _).setCell (by simp) _).setCell (by simp) _).setCell (by simp) _

end Go.Proofs.Ytgnfiakbcogdlak
