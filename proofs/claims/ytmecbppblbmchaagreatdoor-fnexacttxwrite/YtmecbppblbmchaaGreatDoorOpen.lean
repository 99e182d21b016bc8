import Derived.Test.YtmecbppblbmchaaGreatDoorMCopy
import Derived.Test.YtmecbppblbmchaaGreatDoorM10
import Derived.Test.YtmecbppblbmchaaGreatDoorLastV
import Derived.Test.YtmecbppblbmchaaGreatDoorOwn
import Derived.Test.YtmecbppblbmchaaGreatDoorOwnTs
import Derived.Test.YtmecbppblbmchaaGreatDoorRows
import Derived.Test.YtmecbppblbmchaaGreatDoorOk
import Derived.Deep.SlicePairs
import Derived.Lib.SmallJoins
/- toMgr: a copy of the whole that is owned; and how great the whole is. -/
namespace Go.Proofs.YtmecbppblbmchaaGreatDoor
open Go.ChangeShapes Go.WideShapes Go.ChangeAt Go.RowKit Go.Sort
set_option linter.unusedVariables false
set_option maxRecDepth 100000
attribute [local go_sem ↓] Go.wp_at_zero Go.wp_at_succ

/-- A copy of the whole, owned: its three lists lie one behind the other. -/
def OwnMC (lo hi : Nat) (w : World) (bs : Nat) (Bs : Nat → Nat) (bt : Nat) (Bt : Nat → Nat) (be : Nat) (m : Md) : Prop :=
  ∃ p q, OwnC lo p w bs Bs m.s ∧ OwnT2 p q w bt Bt m.x ∧ OwnE w be m.h ∧ p ≤ q ∧ q ≤ be ∧ be < hi

theorem OwnMC.at {lo hi : Nat} {w : World} {bs : Nat} {Bs : Nat → Nat} {bt : Nat} {Bt : Nat → Nat} {be : Nat} {m : Md} (h : OwnMC lo hi w bs Bs bt Bt be m) (hn : SmallM m) (cs ct ce : Nat) :
    MAt lo hi w (.slice (some ⟨bs, 0, none⟩) m.s.length cs) (.slice (some ⟨bt, 0, none⟩) m.x.length ct) (.slice (some ⟨be, 0, none⟩) m.h.length ce) m := by
  obtain ⟨p, q, h1, h2, h3, h4, h5, h6⟩ := h
  have hlo : lo ≤ p := by have := h1.1; have := h1.2.1; omega
  exact ⟨(h1.chains hn.s).wide (Nat.le_refl _) (by omega), (h2.txs hn.x hn.w).wide hlo (by omega), h3.evs (by omega) h6 hn.h⟩

set_option maxHeartbeats 1000000 in
theorem toMgr_own (vs vt ve : Value) (m : Md) (w : World) {lo hi : Nat} (h : MAt lo hi w vs vt ve m) (hn : SmallM m) :
    Calls Tryz.prog 10 #[.agg #[vs, .int .i64 m.c, .int .i64 m.n, vt, ve]] w fun e w' => ∃ bs Bs bt Bt be, e = .returned (.agg #[.slice (some ⟨bs, 0, none⟩) m.s.length m.s.length, .int .i64 m.c, .int .i64 m.n, .slice (some ⟨bt, 0, none⟩) m.x.length m.x.length, .slice (some ⟨be, 0, none⟩) m.h.length m.h.length]) ∧ OwnMC w.heap.size w'.heap.size w' bs Bs bt Bt be m ∧ Below w.heap.size w w' := by
  obtain ⟨a1, caps, hvs⟩ : ∃ a cap, vs = .slice a m.s.length cap := by obtain ⟨a, cap, h1, _⟩ := h.s; exact ⟨a, cap, h1⟩
  obtain ⟨a2, capt, hvt⟩ : ∃ a cap, vt = .slice a m.x.length cap := by obtain ⟨a, cap, h1, _⟩ := h.x; exact ⟨a, cap, h1⟩
  obtain ⟨a3, cape, hve⟩ : ∃ a cap, ve = .slice a m.h.length cap := by obtain ⟨a, cap, h1, _⟩ := h.h; exact ⟨a, cap, h1⟩
  subst hvs hvt hve
  go_enter Tryz.func10, Tryz.ntmps10
  go_wp2_with fail
  have hb0 : Below w.heap.size w (((w.alloc (Obj.cells #[Value.slice a1 m.s.length caps, .int .i64 m.c, .int .i64 m.n, Value.slice a2 m.x.length capt, Value.slice a3 m.h.length cape] 28)).alloc (Obj.cells #[Value.slice none 0 0, .int .i64 0, .int .i64 0, Value.slice none 0 0, Value.slice none 0 0] 36)).alloc (Obj.cells #[Value.slice none 0 0, .int .i64 0, .int .i64 0, Value.slice none 0 0, Value.slice none 0 0] 36)) :=
    (((Below.refl _ _).alloc (Nat.le_refl _) _).alloc (by simp) _).alloc (by simp; omega) _
  refine (toStore_own _ m.s _ (h.s.stays hb0) hn.s).mono ?_
  rintro e w1 ⟨bs, Bs, rfl, hv1, hb1⟩
  obtain ⟨hc1, hf1⟩ := bcell hb1
  have hz1 : w.heap.size + 1 + 1 < w1.heap.size := by have := hb1.size; simp at this; omega
  have hb1x := hb0.trans (hb1.mono hb0.size)
  simp only [World.size_alloc] at hv1
  have hz1a : w.heap.size + 1 < w1.heap.size := by omega
  have hz1b : w.heap.size < w1.heap.size := by omega
  go_wp2_with fail
  have hbA : Below w.heap.size w (((w1.setCell ⟨w.heap.size + 1 + 1, 0, none⟩ (Value.slice (some ⟨bs, 0, none⟩) m.s.length m.s.length)).setCell ⟨w.heap.size + 1 + 1, 1, none⟩ (.int .i64 m.c)).setCell ⟨w.heap.size + 1 + 1, 2, none⟩ (.int .i64 m.n)) :=
    ((hb1x.setCell (by simp; omega) _).setCell (by simp; omega) _).setCell (by simp; omega) _
  refine (toTxS_own _ m.x _ (h.x.stays hbA) hn.x hn.w).mono ?_
  rintro e w2 ⟨Bt, rfl, hv2, hb2⟩
  obtain ⟨hc2, hf2⟩ := bcell hb2
  have hz2 : w1.heap.size ≤ w2.heap.size := by have := hb2.size; simp only [size_setCell] at this; exact this
  have hz2a : w.heap.size + 1 + 1 < w2.heap.size := by omega
  have hz2b : w.heap.size + 1 < w2.heap.size := by omega
  have hz2c : w.heap.size < w2.heap.size := by omega
  have hb2x := hbA.trans (hb2.mono hbA.size)
  simp only [size_setCell] at hv2
  go_wp2_with fail
  have hbB : Below w.heap.size w (w2.setCell ⟨w.heap.size + 1 + 1, 3, none⟩ (Value.slice (some ⟨w1.heap.size, 0, none⟩) m.x.length m.x.length)) := hb2x.setCell (by simp; omega) _
  refine (toEvS_own _ m.h _ (h.h.stays hbB) hn.h).mono ?_
  rintro e w3 ⟨rfl, hv3, hb3⟩
  obtain ⟨hc3, hf3⟩ := bcell hb3
  have hz3 : w2.heap.size ≤ w3.heap.size := by have := hb3.size; simp only [size_setCell] at this; exact this
  have hz3a : w.heap.size + 1 + 1 < w3.heap.size := by omega
  have hb3x := hbB.trans (hb3.mono hbB.size)
  simp only [size_setCell] at hv3
  go_wp2
  refine bodyPost_ret (v := .agg #[.slice (some ⟨bs, 0, none⟩) m.s.length m.s.length, .int .i64 m.c, .int .i64 m.n, .slice (some ⟨w1.heap.size, 0, none⟩) m.x.length m.x.length, .slice (some ⟨w2.heap.size, 0, none⟩) m.h.length m.h.length]) (by simp [results, Tryz.results10, go_sem, hc3, hc2, hc1, hz1a, hz2b]) rfl ⟨bs, Bs, w1.heap.size, Bt, w2.heap.size, rfl, ?_, ?_⟩
  · have hk : ∀ x, w.heap.size + 1 + 1 < x → ∀ u0 u1 u2 u3 u4 u5, ((((((w3.setCell ⟨w.heap.size + 1 + 1, 4, none⟩ u0).setCell ⟨w.heap.size + 1, 0, none⟩ u1).setCell ⟨w.heap.size + 1, 1, none⟩ u2).setCell ⟨w.heap.size + 1, 2, none⟩ u3).setCell ⟨w.heap.size + 1, 3, none⟩ u4).setCell ⟨w.heap.size + 1, 4, none⟩ u5).heap[x]? = w3.heap[x]? := fun x hx u0 u1 u2 u3 u4 u5 => by
      iterate 6 rw [Below.heap_setCell _ _ _ _ (by simp; omega)]
    have k3 : ∀ x, w.heap.size + 1 + 1 < x → x < w2.heap.size → w3.heap[x]? = w2.heap[x]? := fun x hx hx2 => by
      rw [hb3.block x (by simp only [size_setCell]; exact hx2), Below.heap_setCell _ _ _ _ (by simp; omega)]
    have k2 : ∀ x, w.heap.size + 1 + 1 < x → x < w1.heap.size → w2.heap[x]? = w1.heap[x]? := fun x hx hx2 => by
      rw [hb2.block x (by simp only [size_setCell]; exact hx2)]
      iterate 3 rw [Below.heap_setCell _ _ _ _ (by simp; omega)]
    refine ⟨w1.heap.size, w2.heap.size, (hv1.keep fun x h1 h2 h3 => ?_).wide (by omega) (Nat.le_refl _), hv2.keep fun x h1 h2 h3 => ?_, hv3.of_block (hk _ (by omega) _ _ _ _ _ _), hz2, Nat.le_refl _, ?_⟩
    · rw [hk x (by omega), k3 x (by omega) (by omega), k2 x (by omega) h3]
    · rw [hk x (by omega), k3 x (by omega) h3]
    · simp only [size_setCell]; exact hv3.lt
  · exact (((((hb3x.setCell (by simp; omega) _).setCell (by simp) _).setCell (by simp) _).setCell (by simp) _).setCell (by simp) _).setCell (by simp) _

end Go.Proofs.YtmecbppblbmchaaGreatDoor

/- What a call owns, and what the laws' copy is, may be written. -/
namespace Go.Proofs.YtmecbppblbmchaaGreatDoor
open Go.ChangeShapes Go.WideShapes Go.ChangeAt Go.RowKit Go.Sort
set_option linter.unusedVariables false
set_option maxRecDepth 100000
attribute [local go_sem ↓] Go.wp_at_zero Go.wp_at_succ

theorem owns_at {w : World} {base : Nat} {T : TypeId} {s n g c : Nat} {xs : List Value} (h : w.ownsRow base T s (.slice (some ⟨g, 0, none⟩) n c) n xs) : RowOf w g T (n * s) (fun j => (xs[j]?).getD undef) := by
  obtain ⟨h1, h2⟩ := h
  rcases h2 with ⟨e, _⟩ | ⟨g', cap, cur, e, h4, h5, h6, h7, h8, h9⟩
  · cases e
  · have e' : g' = g := by injection e with e; injection e with e; injection e with e; exact e.symm
    subst e'
    have hle : n * s ≤ cur.size := by rw [h8]; exact Nat.mul_le_mul_right s h6
    refine ⟨cur, h5, hle, fun j hj => ?_⟩
    have hget : cur[j]? = xs[j]? := by
      rw [← h9, List.getElem?_take, if_pos hj]; simp
    rw [hget]
    have : j < xs.length := by omega
    simp [List.getElem?_eq_getElem this]

theorem WrM.of_own {base s0 s1 : Nat} {w : World} {vs vt ve : Value} {m : Md} {wv : Nat → Value} (h : OwnM base w s0 s1 vs vt ve m wv) : WrM w base w.heap.size s0 s1 vs vt ve m wv := by
  have hrng : ∀ a, a < m.x.length + 2 → ∀ b, (mv vt ve wv a).ownBlock = some b → (base ≤ b ∧ b < w.heap.size) ∧ ¬ (s0 ≤ b ∧ b < s1) := fun a ha b hb => ⟨h.lt a ha b hb, by have := h.far a ha b hb; omega⟩
  refine ⟨h.s, h.sb.1, h.sb.2.2, ?_, Rr.of_owns h.h, ?_, fun b hb => hrng 1 (by omega) b hb, ?_, Nat.le_refl _⟩
  · obtain ⟨a, c, rfl⟩ := owns_sliceM h.x
    have hx := h.x
    obtain ⟨hx1, hx2⟩ := h.x
    rcases hx2 with ⟨e, h0⟩ | ⟨g, cap, cur, e, _⟩
    · exact .inl ⟨e, h0⟩
    · injection e with e1 e2 e3
      subst e1
      refine .inr ⟨g, c, _, rfl, owns_at hx, fun i hi => ?_, fun i hi => Rr.of_owns (h.xw i hi), fun i hi e => ?_, fun i j hi hj hij b hb => h.apart (i + 2) (j + 2) (by omega) (by omega) (by omega) b hb⟩
      · show ((txc m.x wv)[i * 3 + 2]?).getD undef = wv i
        rw [(txc_get m.x wv hi).2.2]
        rfl
      · exact h.apart 0 (i + 2) (by omega) (by omega) (by omega) g rfl e
  · rintro b (hb | ⟨i, hi, hb⟩)
    · exact hrng 0 (by omega) b hb
    · exact hrng (i + 2) (by omega) b hb
  · rintro b (hb | ⟨i, hi, hb⟩)
    · exact h.apart 0 1 (by omega) (by omega) (by omega) b hb
    · exact h.apart (i + 2) 1 (by omega) (by omega) (by omega) b hb

theorem WrM.of_copy {lo hi : Nat} {w : World} {bs : Nat} {Bs : Nat → Nat} {bt : Nat} {Bt : Nat → Nat} {be : Nat} {m : Md} (h : OwnMC lo hi w bs Bs bt Bt be m) (hhi : hi ≤ w.heap.size) (cs ct ce : Nat) :
    ∃ p wv, WrM w lo hi lo p (.slice (some ⟨bs, 0, none⟩) m.s.length cs) (.slice (some ⟨bt, 0, none⟩) m.x.length ct) (.slice (some ⟨be, 0, none⟩) m.h.length ce) m wv := by
  obtain ⟨p, q, hC, hT, hE, h1, h2, h3⟩ := h
  obtain ⟨t1, t2, f, t3, t4, t5⟩ := hT
  obtain ⟨fe, e1, _⟩ := hE
  have hlp : lo ≤ p := by have := hC.1; have := hC.2.1; omega
  have hob : ∀ i, i < m.x.length → ∀ b, (f (i * 3 + 2)).ownBlock = some b → b = Bt i := fun i hi b hb => by
    obtain ⟨_, _, ⟨c, _, e⟩, _⟩ := t4 i hi
    rw [e] at hb
    simpa [Value.ownBlock] using hb.symm
  have hX : ∀ b, ((Value.slice (some ⟨bt, 0, none⟩) m.x.length ct).ownBlock = some b ∨ ∃ i, i < m.x.length ∧ (f (i * 3 + 2)).ownBlock = some b) → p ≤ b ∧ b < q := by
    rintro b (hb | ⟨i, hi, hb⟩)
    · have : b = bt := by simpa [Value.ownBlock] using hb.symm
      omega
    · have := hob i hi b hb
      obtain ⟨_, _, _, _, g1, g2, _⟩ := t4 i hi
      omega
  have hEb : ∀ b, (Value.slice (some ⟨be, 0, none⟩) m.h.length ce).ownBlock = some b → b = be := fun b hb => by simpa [Value.ownBlock] using hb.symm
  refine ⟨p, fun i => f (i * 3 + 2), ⟨.inr ⟨bs, Bs, cs, rfl, hC⟩, Nat.le_refl _, by omega, .inr ⟨bt, ct, f, rfl, t3, fun i hi => rfl, fun i hi => ?_, fun i hi e => ?_, fun i j hi hj hij b hb hb' => ?_⟩, .inr ⟨be, ce, fe, rfl, e1⟩, fun b hb => by have := hX b hb; omega, fun b hb => by have := hEb b hb; omega, fun b hb hb' => by have := hX b hb; have := hEb b hb'; omega, hhi⟩⟩
  · obtain ⟨_, _, ⟨c, _, e⟩, ⟨g, g1, _⟩, _⟩ := t4 i hi
    exact .inr ⟨_, c, g, e, g1⟩
  · have := hob i hi _ e
    exact (t4 i hi).2.2.2.2.2.2 this.symm
  · have a1 := hob i hi b hb
    have a2 := hob j hj b hb'
    rcases Nat.lt_or_gt_of_ne hij with h | h
    · exact t5 i j h hj (by omega)
    · exact t5 j i h hi (by omega)
end Go.Proofs.YtmecbppblbmchaaGreatDoor

/- szMgr: how great the whole is. -/
namespace Go.Proofs.YtmecbppblbmchaaGreatDoor
open Go.ChangeShapes Go.WideShapes Go.ChangeAt Go.RowKit Go.Sort
set_option linter.unusedVariables false
set_option maxRecDepth 100000
attribute [local go_sem ↓] Go.wp_at_zero Go.wp_at_succ

theorem szRowS_any (v : Value) (l : List Rw) (w : World) {lo hi : Nat} (h : RowsAt lo hi w v l) (left : Int) (h0 : 0 ≤ left) (h1 : left ≤ 1048576) :
    Calls Tryz.prog 98 #[v, .int .i64 left] w fun e w' => ∃ r, e = .returned (.int .i64 r) ∧ r ≤ left ∧ (0 ≤ r → l.length ≤ 1048576) ∧ w' = w := by
  obtain ⟨a, cap, rfl, hm, hc⟩ := h
  clear hc
  unfold maxLen at hm
  by_cases hlt : left - l.length < 0
  · go_enter Tryz.func98, Tryz.ntmps98
    go_wp2
    go_ret
    exact ⟨_, rfl, by omega, by omega, rfl⟩
  · go_enter Tryz.func98, Tryz.ntmps98
    go_wp2
    go_ret
    exact ⟨_, rfl, by omega, by omega, rfl⟩
theorem szEvS_any (v : Value) (l : List Ed) (w : World) {lo hi : Nat} (h : EvsAt lo hi w v l) (left : Int) (h0 : 0 ≤ left) (h1 : left ≤ 1048576) :
    Calls Tryz.prog 26 #[v, .int .i64 left] w fun e w' => ∃ r, e = .returned (.int .i64 r) ∧ r ≤ left ∧ (0 ≤ r → l.length ≤ 1048576) ∧ w' = w := by
  obtain ⟨a, cap, rfl, hm, hc⟩ := h
  clear hc
  unfold maxLen at hm
  by_cases hlt : left - l.length < 0
  · go_enter Tryz.func26, Tryz.ntmps26
    go_wp2
    go_ret
    exact ⟨_, rfl, by omega, by omega, rfl⟩
  · go_enter Tryz.func26, Tryz.ntmps26
    go_wp2
    go_ret
    exact ⟨_, rfl, by omega, by omega, rfl⟩

theorem szTx_any (i s : Int) (v : Value) (l : List Rw) (w : World) {lo hi : Nat} (h : RowsAt lo hi w v l) (left : Int) (h0 : 0 ≤ left) (h1 : left ≤ 1048576) :
    Calls Tryz.prog 56 #[.agg #[.int .i64 i, .int .i64 s, v], .int .i64 left] w fun e w' => ∃ q, e = .returned (.int .i64 q) ∧ q ≤ left ∧ (0 ≤ q → l.length ≤ 1048576) ∧ Below w.heap.size w w' := by
  obtain ⟨a, cap, hv⟩ : ∃ a cap, v = .slice a l.length cap := by obtain ⟨a, cap, h1, _⟩ := h; exact ⟨a, cap, h1⟩
  subst hv
  have hbx : Below w.heap.size w (w.alloc (Obj.cells #[Value.int IntKind.i64 i, Value.int IntKind.i64 s, Value.slice a l.length cap] 88)) := (Below.refl _ _).alloc (Nat.le_refl _) _
  go_enter Tryz.func56, Tryz.ntmps56
  go_wp2_with fail
  refine (szRowS_any _ l _ (h.stays hbx) _ h0 h1).mono ?_
  rintro e w2 ⟨q, rfl, hq, hl, rfl⟩
  by_cases hlt : q < 0
  · go_wp2
    go_ret
    exact ⟨_, rfl, by omega, by omega, hbx⟩
  · go_wp2
    go_ret
    exact ⟨_, rfl, by omega, fun _ => hl (by omega), hbx⟩

theorem szTxS_any (v : Value) (l : List Td) (w : World) {lo hi : Nat} (h : TxsAt lo hi w v l) (left : Int) (h0 : 0 ≤ left) (h1 : left ≤ 1048576) :
    Calls Tryz.prog 25 #[v, .int .i64 left] w fun e w' => ∃ q, e = .returned (.int .i64 q) ∧ q ≤ left ∧ (0 ≤ q → l.length ≤ 1048576 ∧ ∀ i, i < l.length → (tAt l i).w.length ≤ 1048576) ∧ Below w.heap.size w w' := by
  obtain ⟨a, cap, rfl, hm, hc⟩ := h
  unfold maxLen at hm
  by_cases hlt : left - l.length < 0
  · go_enter Tryz.func25, Tryz.ntmps25
    go_wp2
    go_ret
    exact ⟨_, rfl, by omega, by omega, Below.refl _ _⟩
  · go_enter Tryz.func25, Tryz.ntmps25
    go_wp2
    go_loopw [1, 5] (fun q i wr => ∃ (k : Nat) (x : Int), k ≤ l.length ∧ i = .int .i64 k ∧ q = .int .i64 x ∧ 0 ≤ x ∧ x ≤ left ∧ Below w.heap.size w wr ∧ ∀ j, j < k → (tAt l j).w.length ≤ 1048576) (fun _ i _ => l.length - (intOf i).toNat)
    case atStart => exact ⟨0, _, Nat.zero_le _, rfl, rfl, by omega, by omega, Below.refl _ _, fun j hj => absurd hj (Nat.not_lt_zero _)⟩
    case round =>
      obtain ⟨k, x, hk, rfl, rfl, hx0, hx1, hb, hs⟩ := hrel
      by_cases hkl : k < l.length
      · obtain ⟨b, off, rfl, hlo, hhi, hcc⟩ := hc (by omega)
        obtain ⟨c0, c1, a2, cap2, c2, c3⟩ := hcc k hkl
        replace c0 := cell_stays hb c0
        replace c1 := cell_stays hb c1
        replace c2 := cell_stays hb c2
        have c2' : wr.cell? ⟨b, off + k * 3 + 1 + 1, none⟩ = some (.slice a2 (tAt l k).w.length cap2) := c2
        replace c3 := c3.stays hb
        clear hcc hc
        go_wp2_with (go_at_call 56; refine (szTx_any _ _ _ _ _ c3 _ hx0 (by omega)).mono ?_; rintro e w1 ⟨q, rfl, hq, hl, hb1⟩)
        · go_ret
          exact ⟨_, rfl, by omega, by omega, hb.trans (hb1.mono hb.size)⟩
        · go_roundw
          case rel =>
            refine ⟨k + 1, _, by omega, by go_num, rfl, by omega, by omega, hb.trans (hb1.mono hb.size), fun j hj => ?_⟩
            by_cases e : j = k
            · subst e; exact hl (by omega)
            · exact hs j (by omega)
          case measure => simp [intOf]; omega
      · have hkk : k = l.length := by omega
        go_wp2
        go_ret
        exact ⟨_, rfl, by omega, fun _ => ⟨by omega, fun i hi => hs i (by omega)⟩, hb⟩

theorem szMgr_any (vs vt ve : Value) (m : Md) (w : World) {lo hi : Nat} (h : MAt lo hi w vs vt ve m) (left : Int) (h0 : 0 ≤ left) (h1 : left ≤ 1048576) :
    Calls Tryz.prog 8 #[.agg #[vs, .int .i64 m.c, .int .i64 m.n, vt, ve], .int .i64 left] w fun e w' => ∃ q, e = .returned (.int .i64 q) ∧ q ≤ left ∧ (0 ≤ q → SmallM m) ∧ Below w.heap.size w w' := by
  obtain ⟨a1, caps, hvs⟩ : ∃ a cap, vs = .slice a m.s.length cap := by obtain ⟨a, cap, h1, _⟩ := h.s; exact ⟨a, cap, h1⟩
  obtain ⟨a2, capt, hvt⟩ : ∃ a cap, vt = .slice a m.x.length cap := by obtain ⟨a, cap, h1, _⟩ := h.x; exact ⟨a, cap, h1⟩
  obtain ⟨a3, cape, hve⟩ : ∃ a cap, ve = .slice a m.h.length cap := by obtain ⟨a, cap, h1, _⟩ := h.h; exact ⟨a, cap, h1⟩
  subst hvs hvt hve
  have hbx : Below w.heap.size w (w.alloc (Obj.cells #[Value.slice a1 m.s.length caps, .int .i64 m.c, .int .i64 m.n, Value.slice a2 m.x.length capt, Value.slice a3 m.h.length cape] 28)) := (Below.refl _ _).alloc (Nat.le_refl _) _
  go_enter Tryz.func8, Tryz.ntmps8
  go_wp2_with fail
  refine (szStore_any _ m.s _ (h.s.stays hbx) _ h0 h1).mono ?_
  rintro e w1 ⟨q, rfl, hq, hl, hb1⟩
  obtain ⟨hc1, hf1⟩ := bcell hb1
  have hb2 := hbx.trans (hb1.mono hbx.size)
  by_cases hlt : q < 0
  · go_wp2
    go_ret
    exact ⟨_, rfl, by omega, by omega, hb2⟩
  go_wp2_with fail
  refine (szTxS_any _ m.x _ (h.x.stays hb2) _ (by omega) (by omega)).mono ?_
  rintro e w3 ⟨q3, rfl, hq3, hl3, hb3⟩
  obtain ⟨hc3, hf3⟩ := bcell hb3
  have hz3 : w.heap.size < w1.heap.size := by have := hb1.size; simp at this; omega
  have hb4 := hb2.trans (hb3.mono hb2.size)
  by_cases hlt3 : q3 < 0
  · go_wp2
    go_ret
    exact ⟨_, rfl, by omega, by omega, hb4⟩
  go_wp2_with fail
  refine (szEvS_any _ m.h _ (h.h.stays hb4) _ (by omega) (by omega)).mono ?_
  rintro e w5 ⟨q5, rfl, hq5, hl5, rfl⟩
  by_cases hlt5 : q5 < 0
  · go_wp2
    go_ret
    exact ⟨_, rfl, by omega, by omega, hb4⟩
  go_wp2
  go_ret
  exact ⟨_, rfl, by omega, fun _ => ⟨hl (by omega), (hl3 (by omega)).1, (hl3 (by omega)).2, hl5 (by omega)⟩, hb4⟩

end Go.Proofs.YtmecbppblbmchaaGreatDoor

/- The same rows, transactions, events, states are the same. -/
namespace Go.Proofs.YtmecbppblbmchaaGreatDoor
open Go.ChangeShapes Go.WideShapes Go.ChangeAt Go.RowKit Go.Sort
set_option linter.unusedVariables false
set_option maxRecDepth 100000
attribute [local go_sem ↓] Go.wp_at_zero Go.wp_at_succ

theorem eqRowS_at (v v' : Value) (l : List Rw) (w : World) {lo hi lo' hi' : Nat} (h : RowsAt lo hi w v l) (h' : RowsAt lo' hi' w v' l) :
    Calls Tryz.prog 114 #[v, v'] w fun e w' => e = .returned (.bool true) ∧ Below w.heap.size w w' := by
  obtain ⟨a, cap, rfl, hm, hc⟩ := h
  obtain ⟨a', cap', rfl, _, hc'⟩ := h'
  unfold maxLen at hm
  go_enter Tryz.func114, Tryz.ntmps114
  go_wp2
  go_loopw [5] (fun i wr => ∃ k : Nat, k ≤ l.length ∧ i = .int .i64 k ∧ Below w.heap.size w wr) (fun i _ => l.length - (intOf i).toNat)
  case atStart => exact ⟨0, Nat.zero_le _, rfl, Below.refl _ _⟩
  case round =>
    obtain ⟨k, hk, rfl, hb⟩ := hrel
    by_cases hlt : k < l.length
    · obtain ⟨b, off, rfl, _, _, hcc⟩ := hc (by omega)
      obtain ⟨b', off', rfl, _, _, hcc'⟩ := hc' (by omega)
      obtain ⟨c0, c1, c2⟩ := hcc k hlt
      obtain ⟨d0, d1, d2⟩ := hcc' k hlt
      replace c0 := cell_stays hb c0
      replace c1 := cell_stays hb c1
      replace c2 := cell_stays hb c2
      replace d0 := cell_stays hb d0
      replace d1 := cell_stays hb d1
      replace d2 := cell_stays hb d2
      have i0 : (0 : Int) ≤ (k : Int) := by omega
      have i1 : (k : Int) < (l.length : Int) := by omega
      clear hcc hc hcc' hc'
      go_wp2_with fail
      go_region_held3 (fun x => Below w.heap.size w x ∧ x.cell? ⟨b, off + k * 3, none⟩ = some (.int .i64 (rAt l k).t) ∧ x.cell? ⟨b, off + k * 3 + 1, none⟩ = some (.int .i64 (rAt l k).r) ∧ x.cell? ⟨b, off + k * 3 + 1 + 1, none⟩ = some (.int .i64 (rAt l k).v) ∧ x.cell? ⟨b', off' + k * 3, none⟩ = some (.int .i64 (rAt l k).t) ∧ x.cell? ⟨b', off' + k * 3 + 1, none⟩ = some (.int .i64 (rAt l k).r) ∧ x.cell? ⟨b', off' + k * 3 + 1 + 1, none⟩ = some (.int .i64 (rAt l k).v))
        (first | exact six_kept (by assumption) hb1 | exact ⟨hb.drew, c0, c1, c2, d0, d1, d2⟩)
        (first | (go_at_call 144; refine (eqRow_same _ _ _ _).mono ?_; rintro e w1 ⟨rfl, hb1⟩))
      rename_i hH
      go_wp2
      go_roundw
      case rel => exact ⟨k + 1, by omega, by go_num, hH.1⟩
      case measure => simp [intOf]; omega
    · go_wp2
      go_ret
      exact ⟨rfl, hb⟩

theorem eqEv_same (k x t r v a : Int) (w : World) :
    Calls Tryz.prog 74 #[.agg #[.int .i64 k, .int .i64 x, .int .i64 t, .int .i64 r, .int .i64 v, .int .i64 a], .agg #[.int .i64 k, .int .i64 x, .int .i64 t, .int .i64 r, .int .i64 v, .int .i64 a]] w fun e w' => e = .returned (.bool true) ∧ Below w.heap.size w w' := by
  have hbx : Below w.heap.size w ((w.alloc (Obj.cells #[.int .i64 k, .int .i64 x, .int .i64 t, .int .i64 r, .int .i64 v, .int .i64 a] 101)).alloc (Obj.cells #[.int .i64 k, .int .i64 x, .int .i64 t, .int .i64 r, .int .i64 v, .int .i64 a] 101)) := ((Below.refl _ _).alloc (Nat.le_refl _) _).alloc (by simp) _
  go_enter Tryz.func74, Tryz.ntmps74
  go_wp2_with (first | (go_at_call 115; refine (eqKey_same _ _ _).mono ?_; rintro e w1 ⟨rfl, hb1⟩; obtain ⟨hc1, hf1⟩ := bcell hb1))
  go_ret
  exact ⟨rfl, hbx.trans (hb1.mono hbx.size)⟩

set_option maxHeartbeats 1000000 in
theorem eqEvS_same (v v' : Value) (l : List Ed) (w : World) {lo hi lo' hi' : Nat} (h : EvsAt lo hi w v l) (h' : EvsAt lo' hi' w v' l) :
    Calls Tryz.prog 38 #[v, v'] w fun e w' => e = .returned (.bool true) ∧ Below w.heap.size w w' := by
  obtain ⟨a, cap, rfl, hm, hc⟩ := h
  obtain ⟨a', cap', rfl, _, hc'⟩ := h'
  unfold maxLen at hm
  go_enter Tryz.func38, Tryz.ntmps38
  go_wp2
  go_loopw [5] (fun i wr => ∃ k : Nat, k ≤ l.length ∧ i = .int .i64 k ∧ Below w.heap.size w wr) (fun i _ => l.length - (intOf i).toNat)
  case atStart => exact ⟨0, Nat.zero_le _, rfl, Below.refl _ _⟩
  case round =>
    obtain ⟨k, hk, rfl, hb⟩ := hrel
    by_cases hlt : k < l.length
    · obtain ⟨b, off, rfl, _, _, hcc⟩ := hc (by omega)
      obtain ⟨b', off', rfl, _, _, hcc'⟩ := hc' (by omega)
      obtain ⟨c0, c1, c2, c3, c4, c5⟩ := hcc k hlt
      obtain ⟨d0, d1, d2, d3, d4, d5⟩ := hcc' k hlt
      replace c0 := cell_stays hb c0
      replace c1 := cell_stays hb c1
      replace c2 := cell_stays hb c2
      replace c3 := cell_stays hb c3
      replace c4 := cell_stays hb c4
      replace c5 := cell_stays hb c5
      replace d0 := cell_stays hb d0
      replace d1 := cell_stays hb d1
      replace d2 := cell_stays hb d2
      replace d3 := cell_stays hb d3
      replace d4 := cell_stays hb d4
      replace d5 := cell_stays hb d5
      have i0 : (0 : Int) ≤ (k : Int) := by omega
      have i1 : (k : Int) < (l.length : Int) := by omega
      clear hcc hc hcc' hc'
      go_wp2_with fail
      go_region_held3 (fun x => Below w.heap.size w x ∧ x.cell? ⟨b, off + k * 6, none⟩ = some (.int .i64 (eAt l k).k) ∧ x.cell? ⟨b, off + k * 6 + 1, none⟩ = some (.int .i64 (eAt l k).x) ∧ x.cell? ⟨b, off + k * 6 + 1 + 1, none⟩ = some (.int .i64 (eAt l k).t) ∧ x.cell? ⟨b, off + k * 6 + 1 + 1 + 1, none⟩ = some (.int .i64 (eAt l k).r) ∧ x.cell? ⟨b, off + k * 6 + 1 + 1 + 1 + 1, none⟩ = some (.int .i64 (eAt l k).v) ∧ x.cell? ⟨b, off + k * 6 + 1 + 1 + 1 + 1 + 1, none⟩ = some (.int .i64 (eAt l k).a) ∧ x.cell? ⟨b', off' + k * 6, none⟩ = some (.int .i64 (eAt l k).k) ∧ x.cell? ⟨b', off' + k * 6 + 1, none⟩ = some (.int .i64 (eAt l k).x) ∧ x.cell? ⟨b', off' + k * 6 + 1 + 1, none⟩ = some (.int .i64 (eAt l k).t) ∧ x.cell? ⟨b', off' + k * 6 + 1 + 1 + 1, none⟩ = some (.int .i64 (eAt l k).r) ∧ x.cell? ⟨b', off' + k * 6 + 1 + 1 + 1 + 1, none⟩ = some (.int .i64 (eAt l k).v) ∧ x.cell? ⟨b', off' + k * 6 + 1 + 1 + 1 + 1 + 1, none⟩ = some (.int .i64 (eAt l k).a))
        (first | exact seven_kept (by assumption) hb1 | exact ⟨hb.drew, c0, c1, c2, c3, c4, c5, d0, d1, d2, d3, d4, d5⟩)
        (first | (go_at_call 74; refine (eqEv_same _ _ _ _ _ _ _).mono ?_; rintro e w1 ⟨rfl, hb1⟩))
      rename_i hH
      go_wp2
      go_roundw
      case rel => exact ⟨k + 1, by omega, by go_num, hH.1⟩
      case measure => simp [intOf]; omega
    · go_wp2
      go_ret
      exact ⟨rfl, hb⟩

theorem eqTx_same (i s : Int) (v v' : Value) (l : List Rw) (w : World) {lo hi lo' hi' : Nat} (h : RowsAt lo hi w v l) (h' : RowsAt lo' hi' w v' l) :
    Calls Tryz.prog 73 #[.agg #[.int .i64 i, .int .i64 s, v], .agg #[.int .i64 i, .int .i64 s, v']] w fun e w' => e = .returned (.bool true) ∧ Below w.heap.size w w' := by
  obtain ⟨a, cap, hv⟩ : ∃ a cap, v = .slice a l.length cap := by obtain ⟨a, cap, h1, _⟩ := h; exact ⟨a, cap, h1⟩
  obtain ⟨a', cap', hv'⟩ : ∃ a cap, v' = .slice a l.length cap := by obtain ⟨a, cap, h1, _⟩ := h'; exact ⟨a, cap, h1⟩
  subst hv hv'
  have hbx : Below w.heap.size w ((w.alloc (Obj.cells #[Value.int IntKind.i64 i, Value.int IntKind.i64 s, Value.slice a l.length cap] 97)).alloc (Obj.cells #[Value.int IntKind.i64 i, Value.int IntKind.i64 s, Value.slice a' l.length cap'] 97)) := ((Below.refl _ _).alloc (Nat.le_refl _) _).alloc (by simp) _
  go_enter Tryz.func73, Tryz.ntmps73
  go_wp2_with fail
  refine (eqRowS_at _ _ l _ (h.stays hbx) (h'.stays hbx)).mono ?_
  rintro e w2 ⟨rfl, hb3⟩
  go_wp2
  go_ret
  exact ⟨rfl, hbx.trans (hb3.mono hbx.size)⟩

theorem eqTxS_same (v v' : Value) (l : List Td) (w : World) {lo hi lo' hi' : Nat} (h : TxsAt lo hi w v l) (h' : TxsAt lo' hi' w v' l) :
    Calls Tryz.prog 37 #[v, v'] w fun e w' => e = .returned (.bool true) ∧ Below w.heap.size w w' := by
  obtain ⟨a, cap, rfl, hm, hc⟩ := h
  obtain ⟨a', cap', rfl, _, hc'⟩ := h'
  unfold maxLen at hm
  go_enter Tryz.func37, Tryz.ntmps37
  go_wp2
  go_loopw [5] (fun i wr => ∃ k : Nat, k ≤ l.length ∧ i = .int .i64 k ∧ Below w.heap.size w wr) (fun i _ => l.length - (intOf i).toNat)
  case atStart => exact ⟨0, Nat.zero_le _, rfl, Below.refl _ _⟩
  case round =>
    obtain ⟨k, hk, rfl, hb⟩ := hrel
    by_cases hlt : k < l.length
    · obtain ⟨b, off, rfl, _, _, hcc⟩ := hc (by omega)
      obtain ⟨b', off', rfl, _, _, hcc'⟩ := hc' (by omega)
      obtain ⟨c0, c1, ca, cb, c2, c3⟩ := hcc k hlt
      obtain ⟨d0, d1, da, db, d2, d3⟩ := hcc' k hlt
      replace c0 := cell_stays hb c0
      replace c1 := cell_stays hb c1
      replace c2 := cell_stays hb c2
      replace d0 := cell_stays hb d0
      replace d1 := cell_stays hb d1
      replace d2 := cell_stays hb d2
      replace c3 := c3.stays hb
      replace d3 := d3.stays hb
      have i0 : (0 : Int) ≤ (k : Int) := by omega
      have i1 : (k : Int) < (l.length : Int) := by omega
      clear hcc hc hcc' hc'
      go_wp2_with fail
      go_region_held3 (fun x => Below w.heap.size w x ∧ x.cell? ⟨b, off + k * 3, none⟩ = some (.int .i64 (tAt l k).i) ∧ x.cell? ⟨b, off + k * 3 + 1, none⟩ = some (.int .i64 (tAt l k).s) ∧ x.cell? ⟨b, off + k * 3 + 1 + 1, none⟩ = some (.slice ca (tAt l k).w.length cb) ∧ x.cell? ⟨b', off' + k * 3, none⟩ = some (.int .i64 (tAt l k).i) ∧ x.cell? ⟨b', off' + k * 3 + 1, none⟩ = some (.int .i64 (tAt l k).s) ∧ x.cell? ⟨b', off' + k * 3 + 1 + 1, none⟩ = some (.slice da (tAt l k).w.length db))
        (first | exact six_kept (by assumption) hb1 | exact ⟨hb.drew, c0, c1, c2, d0, d1, d2⟩)
        (first | (go_at_call 73; refine (eqTx_same _ _ _ _ (tAt l k).w _ (c3.stays (Below.refl _ _).drew) (d3.stays (Below.refl _ _).drew)).mono ?_; rintro e w1 ⟨rfl, hb1⟩))
      rename_i hH
      go_wp2
      go_roundw
      case rel => exact ⟨k + 1, by omega, by go_num, hH.1⟩
      case measure => simp [intOf]; omega
    · go_wp2
      go_ret
      exact ⟨rfl, hb⟩

theorem eqMgr_same (vs vt ve vs' vt' ve' : Value) (m : Md) (w : World) {lo hi lo' hi' : Nat} (h : MAt lo hi w vs vt ve m) (h' : MAt lo' hi' w vs' vt' ve' m) :
    Calls Tryz.prog 12 #[.agg #[vs, .int .i64 m.c, .int .i64 m.n, vt, ve], .agg #[vs', .int .i64 m.c, .int .i64 m.n, vt', ve']] w fun e w' => e = .returned (.bool true) ∧ Below w.heap.size w w' := by
  obtain ⟨a1, cap1, hv1⟩ : ∃ a cap, vs = .slice a m.s.length cap := by obtain ⟨a, cap, h1, _⟩ := h.s; exact ⟨a, cap, h1⟩
  obtain ⟨a2, cap2, hv2⟩ : ∃ a cap, vt = .slice a m.x.length cap := by obtain ⟨a, cap, h1, _⟩ := h.x; exact ⟨a, cap, h1⟩
  obtain ⟨a3, cap3, hv3⟩ : ∃ a cap, ve = .slice a m.h.length cap := by obtain ⟨a, cap, h1, _⟩ := h.h; exact ⟨a, cap, h1⟩
  obtain ⟨a1', cap1', hv1'⟩ : ∃ a cap, vs' = .slice a m.s.length cap := by obtain ⟨a, cap, h1, _⟩ := h'.s; exact ⟨a, cap, h1⟩
  obtain ⟨a2', cap2', hv2'⟩ : ∃ a cap, vt' = .slice a m.x.length cap := by obtain ⟨a, cap, h1, _⟩ := h'.x; exact ⟨a, cap, h1⟩
  obtain ⟨a3', cap3', hv3'⟩ : ∃ a cap, ve' = .slice a m.h.length cap := by obtain ⟨a, cap, h1, _⟩ := h'.h; exact ⟨a, cap, h1⟩
  subst hv1 hv2 hv3 hv1' hv2' hv3'
  have hbx : Below w.heap.size w ((w.alloc (Obj.cells #[Value.slice a1 m.s.length cap1, .int .i64 m.c, .int .i64 m.n, Value.slice a2 m.x.length cap2, Value.slice a3 m.h.length cap3] 36)).alloc (Obj.cells #[Value.slice a1' m.s.length cap1', .int .i64 m.c, .int .i64 m.n, Value.slice a2' m.x.length cap2', Value.slice a3' m.h.length cap3'] 36)) := ((Below.refl _ _).alloc (Nat.le_refl _) _).alloc (by simp) _
  go_enter Tryz.func12, Tryz.ntmps12
  go_wp2_with fail
  refine (eqStore_same _ _ m.s _ (h.s.stays hbx) (h'.s.stays hbx)).mono ?_
  rintro e w1 ⟨rfl, hb1⟩
  obtain ⟨hc1, hf1⟩ := bcell hb1
  have hz1 : w.heap.size + 1 < w1.heap.size := by have := hb1.size; simp at this; omega
  have hz1a : w.heap.size < w1.heap.size := by omega
  have b1 := hbx.trans (hb1.mono hbx.size)
  go_wp2_with fail
  refine (eqTxS_same _ _ m.x _ (h.x.stays b1) (h'.x.stays b1)).mono ?_
  rintro e w2 ⟨rfl, hb2⟩
  obtain ⟨hc2, hf2⟩ := bcell hb2
  have b2 := b1.trans (hb2.mono b1.size)
  go_wp2_with fail
  refine (eqEvS_same _ _ m.h _ (h.h.stays b2) (h'.h.stays b2)).mono ?_
  rintro e w3 ⟨rfl, hb3⟩
  have b3 := b2.trans (hb3.mono b2.size)
  go_wp2
  go_ret
  exact ⟨rfl, b3⟩

end Go.Proofs.YtmecbppblbmchaaGreatDoor

/- Addresses of cells that are read. -/
namespace Go.Proofs.YtmecbppblbmchaaGreatDoor
open Go.ChangeShapes Go.WideShapes Go.ChangeAt Go.RowKit Go.Deep Go.Joins
set_option linter.unusedVariables false

theorem add_plain {w : World} {a : Addr} {j : Nat} {v : Value} (h : w.cell? (a.add j) = some v) : a.add j = ⟨a.block, a.off + j, none⟩ := by
  have hs := World.cell?_spot h
  unfold Addr.add at hs ⊢
  obtain ⟨b, o, s⟩ := a
  by_cases hj : j = 0
  · simp [hj] at hs ⊢; exact hs
  · simp [hj] at hs ⊢; try exact hs

theorem spot_plain {w : World} {a : Addr} {v : Value} (h : w.cell? (a.add 0) = some v) : a = ⟨a.block, a.off, none⟩ := by
  have := add_plain h
  simpa [Addr.add] using this

end Go.Proofs.YtmecbppblbmchaaGreatDoor

/- From the reading of an argument to the plain data: versions, chains, a store, a key. -/
namespace Go.Proofs.YtmecbppblbmchaaGreatDoor
open Go.ChangeShapes Go.WideShapes Go.ChangeAt Go.RowKit Go.Deep Go.Joins
set_option linter.unusedVariables false
set_option maxRecDepth 100000

section
variable {H : Type} {enc : TypeId × Value → H} {W : World}

theorem open_vers {fuel : Nat} {cs : List Value} {x : DataW H × List MemPlace} (h : DataW.trod enc Tryz.prog W 0 (fun _ => true) true fuel 142 cs = some x) :
    ∃ a n cap l, cs = [.slice a n cap] ∧ n = l.length ∧ VersAt 0 W.heap.size W (.slice a n cap) l := by
  rcases open_slice_pairs Tryz.underlying142 Tryz.underlying213 (by kernel_rfl) rfl rfl (by kernel_rfl) (by kernel_rfl) h with ⟨rfl, _⟩ | ⟨a, len, cap, m, n, V0, V1, D0, D1, P0, P1, rfl, _, hl, hm, hmm, _, hx⟩
  · exact ⟨none, 0, 0, [], rfl, rfl, none, 0, rfl, Nat.zero_le _, fun h => absurd h (Nat.lt_irrefl _)⟩
  · obtain rfl : m = cap := by simpa using hmm
    obtain ⟨f, hf⟩ := choose_lt (α := Vr) (n := len) (p := fun i q => V0 i = .int .i64 q.1 ∧ V1 i = .int .i64 q.2) (fun i hi => by
      obtain ⟨_, _, h0, h1⟩ := hx i (by omega)
      obtain ⟨n0, e0, _, _⟩ := DataW.trod_int Tryz.underlying3 h0
      obtain ⟨n1, e1, _, _⟩ := DataW.trod_int Tryz.underlying3 h1
      exact ⟨(n0, n1), by simpa using e0, by simpa using e1⟩)
    refine ⟨some a, len, m, (List.range len).map f, rfl, by simp, some a, m, by simp, by simp; omega, fun hp => ?_⟩
    have hlen : 0 < len := by simpa using hp
    have ha := spot_plain (by simpa using (hx 0 (by omega)).1)
    refine ⟨a.block, a.off, by rw [← ha], Nat.zero_le _, cell_lt (hx 0 (by omega)).1 |> fun h => by simpa [Addr.add] using h, fun i hi => ?_⟩
    have hi' : i < len := by simpa using hi
    obtain ⟨g0, g1, _, _⟩ := hx i (by omega)
    have e : vAt ((List.range len).map f) i = f i := by simp [vAt, hi']
    rw [add_plain g0, (hf i hi').1] at g0
    rw [add_plain g1, (hf i hi').2] at g1
    rw [e]
    exact ⟨g0, by simpa [Nat.add_assoc] using g1⟩

theorem open_key_cells {fuel : Nat} {cs : List Value} {x : DataW H × List MemPlace} (h : DataW.trod enc Tryz.prog W 0 (fun _ => true) true fuel 44 cs = some x) :
    ∃ a b : Int, cs = [.int .i64 a, .int .i64 b] ∧ wf a ∧ wf b := by
  obtain ⟨y0, y1, n, _, hlen, h0, h1⟩ := trod_struct2 Tryz.underlying44 h
  have hc : Tryz.prog.cellsOf 44 = 2 := by kernel_rfl
  have hi : Tryz.prog.cellsOf 3 = 1 := by kernel_rfl
  rw [hc] at hlen
  match cs, hlen with
  | [v0, v1], _ =>
    simp only [hi] at h0 h1
    obtain ⟨n0, e0, _, w0⟩ := DataW.trod_int Tryz.underlying3 h0
    obtain ⟨n1, e1, _, w1⟩ := DataW.trod_int Tryz.underlying3 h1
    simp at e0 e1
    exact ⟨n0, n1, by rw [e0, e1], w0, w1⟩

theorem open_chains {fuel : Nat} {cs : List Value} {x : DataW H × List MemPlace} (h : DataW.trod enc Tryz.prog W 0 (fun _ => true) true fuel 22 cs = some x) :
    ∃ v l, cs = [v] ∧ ChainsAt 0 W.heap.size W v l ∧ WfCh l := by
  have hce : Tryz.prog.cellsOf 144 = 3 := by kernel_rfl
  have hck : Tryz.prog.cellsOf 44 = 2 := by kernel_rfl
  have hcl : Tryz.prog.cellsOf 142 = 1 := by kernel_rfl
  rcases open_slice Tryz.underlying22 h with ⟨rfl, _⟩ | ⟨a, len, cap, m, n, D, Pl, rfl, _, hl, hm, hmm, _, hx⟩
  · exact ⟨_, [], rfl, ⟨none, 0, rfl, Nat.zero_le _, fun h => absurd h (Nat.lt_irrefl _)⟩, fun i hi => absurd hi (Nat.not_lt_zero _)⟩
  · obtain rfl : m = cap := by simpa using hmm
    have inh : Inhabited Ch := ⟨ch0⟩
    obtain ⟨f, hf⟩ := choose_lt (α := Ch) (n := len) (p := fun i q => W.cell? (a.add (i * 3)) = some (.int .i64 q.t) ∧ W.cell? (a.add (i * 3 + 1)) = some (.int .i64 q.r) ∧
        ∃ a' c', W.cell? (a.add (i * 3 + 2)) = some (.slice a' q.l.length c') ∧ VersAt 0 W.heap.size W (.slice a' q.l.length c') q.l ∧ wf q.t ∧ wf q.r) (fun i hi => by
      obtain ⟨cs', h1, h2⟩ := hx i (by omega)
      rw [hce] at h1
      obtain ⟨_, hlen, hcell⟩ := World.cells?_some h1
      obtain ⟨y0, y1, n, _, _, h0, h1⟩ := trod_struct2 Tryz.underlying144 h2
      match cs', hlen with
      | [v0, v1, v2], _ =>
        simp only [hck, hcl] at h0 h1
        obtain ⟨k0, k1, ek, wk0, wk1⟩ := open_key_cells h0
        obtain ⟨a', n', c', l', el, rfl, hv⟩ := open_vers h1
        simp at ek el
        have e0 := hcell 0 (by omega)
        have e1 := hcell 1 (by omega)
        have e2 := hcell 2 (by omega)
        rw [add_add] at e0 e1 e2
        refine ⟨⟨k0, k1, l'⟩, ?_, ?_, a', c', ?_, hv, wk0, wk1⟩
        · simpa [ek.1] using e0
        · simpa [ek.2] using e1
        · simpa [el] using e2)
    refine ⟨.slice (some a) len m, (List.range len).map f, rfl, ⟨some a, m, by simp, by simp; omega, fun hp => ?_⟩, fun i hi => by
      have hi' : i < len := by simpa using hi
      have e : cAt ((List.range len).map f) i = f i := by simp [cAt, hi']
      obtain ⟨_, _, _, _, _, _, g⟩ := hf i hi'
      rw [e]; exact g⟩
    have hlen : 0 < len := by simpa using hp
    have ha := spot_plain (by simpa using (hf 0 (by omega)).1)
    refine ⟨a.block, a.off, by rw [← ha], Nat.zero_le _, cell_lt (hf 0 (by omega)).1 |> fun h => by simpa [Addr.add] using h, fun i hi => ?_⟩
    have hi' : i < len := by simpa using hi
    obtain ⟨g0, g1, a', c', g2, g3, _⟩ := hf i hi'
    have e : cAt ((List.range len).map f) i = f i := by simp [cAt, hi']
    rw [add_plain g0] at g0
    rw [add_plain g1] at g1
    rw [add_plain g2] at g2
    rw [e]
    exact ⟨g0, by simpa [Nat.add_assoc] using g1, a', c', by simpa [Nat.add_assoc] using g2, g3⟩

theorem open_store {r : Reach} {b0 : Nat} {v0 : Value} {d : DataW H} {p : List MemPlace} (hv : Value.okWide Tryz.prog W r b0 24 v0) (h : DataW.Trod enc Tryz.prog W 0 (fun _ => true) true 24 v0 d p) :
    ∃ v l, v0 = .agg #[v] ∧ ChainsAt 0 W.heap.size W v l ∧ WfCh l := by
  obtain ⟨cs, rfl, hsz⟩ := okWide_struct Tryz.underlying24 hv
  have hc : Tryz.prog.cellsOf 24 = 1 := by kernel_rfl
  have hcl : Tryz.prog.cellsOf 22 = 1 := by kernel_rfl
  rw [hc] at hsz
  obtain ⟨fuel, hf⟩ := h
  obtain ⟨y0, n, _, _, h0⟩ := trod_struct1 Tryz.underlying24 hf
  obtain ⟨c, rfl⟩ : ∃ c, cs = #[c] := by
    match cs, hsz with
    | ⟨[c]⟩, _ => exact ⟨c, rfl⟩
  simp only [hcl] at h0
  obtain ⟨v, l, e, hl, hw⟩ := open_chains h0
  simp [Value.cells] at e
  exact ⟨v, l, by rw [e], hl, hw⟩

theorem open_key {r : Reach} {b0 : Nat} {v0 : Value} {d : DataW H} {p : List MemPlace} (hv : Value.okWide Tryz.prog W r b0 44 v0) (h : DataW.Trod enc Tryz.prog W 0 (fun _ => true) true 44 v0 d p) :
    ∃ a b : Int, v0 = .agg #[.int .i64 a, .int .i64 b] ∧ wf a ∧ wf b := by
  obtain ⟨c0, c1, y0, y1, m, rfl, _, _, hy0, hy1⟩ := open_agg2 Tryz.underlying44 (by kernel_rfl) (by kernel_rfl) hv h
  obtain ⟨x, e0, _, w0⟩ := DataW.trod_int Tryz.underlying3 hy0
  obtain ⟨y, e1, _, w1⟩ := DataW.trod_int Tryz.underlying3 hy1
  simp at e0 e1
  exact ⟨x, y, by rw [e0, e1], w0, w1⟩

end
end Go.Proofs.YtmecbppblbmchaaGreatDoor
