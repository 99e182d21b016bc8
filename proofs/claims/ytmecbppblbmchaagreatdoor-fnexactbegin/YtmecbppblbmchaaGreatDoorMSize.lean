import Derived.Test.YtmecbppblbmchaaGreatDoorMCopy
import Derived.Test.YtmecbppblbmchaaGreatDoorM10
import Derived.Test.YtmecbppblbmchaaGreatDoorMData
import Derived.Test.YtmecbppblbmchaaGreatDoorCopy
/- toMgr: a copy of the whole that is owned; and how great the whole is. -/
namespace Go.Proofs.YtmecbppblbmchaaGreatDoor
open Go.ChangeShapes Go.WideShapes Go.ChangeAt Go.RowKit Go.Sort
set_option linter.unusedVariables false
set_option maxRecDepth 100000
attribute [local go_sem ↓] Go.wp_at_zero Go.wp_at_succ

/-- A copy of the whole, owned: its three lists lie one behind the other. -/
def OwnMC (lo hi : Nat) (w : World) (bs : Nat) (Bs : Nat → Nat) (bt : Nat) (Bt : Nat → Nat) (be : Nat) (m : Md) : Prop :=
  ∃ p q, OwnC lo p w bs Bs m.s ∧ OwnT2 p q w bt Bt m.x ∧ OwnE w be m.h ∧ p ≤ q ∧ q ≤ be ∧ be < hi

theorem OwnMC.at {lo hi : Nat} {w : World} {bs : Nat} {Bs : Nat → Nat} {bt : Nat} {Bt : Nat → Nat} {be : Nat} {m : Md} (h : OwnMC lo hi w bs Bs bt Bt be m) (hn : SmallM m) (cs ct ce : Nat) :
    MAt lo hi w (.slice (some ⟨bs, 0, none⟩) m.s.length cs) (.slice (some ⟨bt, 0, none⟩) m.x.length ct) (.slice (some ⟨be, 0, none⟩) m.h.length ce) m := by
  obtain ⟨p, q, h1, h2, h3, h4, h5, h6⟩ := h
  have hlo : lo ≤ p := by have := h1.1; have := h1.2.1; omega
  exact ⟨(h1.chains hn.s).wide (Nat.le_refl _) (by omega), (h2.txs hn.x hn.w).wide hlo (by omega), h3.evs (by omega) h6 hn.h⟩

set_option maxHeartbeats 1000000 in
theorem toMgr_own (vs vt ve : Value) (m : Md) (w : World) {lo hi : Nat} (h : MAt lo hi w vs vt ve m) (hn : SmallM m) :
    Calls Tryz.prog 10 #[.agg #[vs, .int .i64 m.c, .int .i64 m.n, vt, ve]] w fun e w' => ∃ bs Bs bt Bt be, e = .returned (.agg #[.slice (some ⟨bs, 0, none⟩) m.s.length m.s.length, .int .i64 m.c, .int .i64 m.n, .slice (some ⟨bt, 0, none⟩) m.x.length m.x.length, .slice (some ⟨be, 0, none⟩) m.h.length m.h.length]) ∧ OwnMC w.heap.size w'.heap.size w' bs Bs bt Bt be m ∧ Below w.heap.size w w' := by
  obtain ⟨a1, caps, hvs⟩ : ∃ a cap, vs = .slice a m.s.length cap := by obtain ⟨a, cap, h1, _⟩ := h.s; exact ⟨a, cap, h1⟩
  obtain ⟨a2, capt, hvt⟩ : ∃ a cap, vt = .slice a m.x.length cap := by obtain ⟨a, cap, h1, _⟩ := h.x; exact ⟨a, cap, h1⟩
  obtain ⟨a3, cape, hve⟩ : ∃ a cap, ve = .slice a m.h.length cap := by obtain ⟨a, cap, h1, _⟩ := h.h; exact ⟨a, cap, h1⟩
  subst hvs hvt hve
  go_enter Tryz.func10, Tryz.ntmps10
  go_wp2_with fail
  have hb0 : Below w.heap.size w (((w.alloc (Obj.cells #[Value.slice a1 m.s.length caps, .int .i64 m.c, .int .i64 m.n, Value.slice a2 m.x.length capt, Value.slice a3 m.h.length cape] 28)).alloc (Obj.cells #[Value.slice none 0 0, .int .i64 0, .int .i64 0, Value.slice none 0 0, Value.slice none 0 0] 36)).alloc (Obj.cells #[Value.slice none 0 0, .int .i64 0, .int .i64 0, Value.slice none 0 0, Value.slice none 0 0] 36)) :=
    (((Below.refl _ _).alloc (Nat.le_refl _) _).alloc (by simp) _).alloc (by simp; omega) _
  refine (toStore_own _ m.s _ (h.s.stays hb0) hn.s).mono ?_
  rintro e w1 ⟨bs, Bs, rfl, hv1, hb1⟩
  obtain ⟨hc1, hf1⟩ := bcell hb1
  have hz1 : w.heap.size + 1 + 1 < w1.heap.size := by have := hb1.size; simp at this; omega
  have hb1x := hb0.trans (hb1.mono hb0.size)
  simp only [World.size_alloc] at hv1
  have hz1a : w.heap.size + 1 < w1.heap.size := by omega
  have hz1b : w.heap.size < w1.heap.size := by omega
  go_wp2_with fail
  have hbA : Below w.heap.size w (((w1.setCell ⟨w.heap.size + 1 + 1, 0, none⟩ (Value.slice (some ⟨bs, 0, none⟩) m.s.length m.s.length)).setCell ⟨w.heap.size + 1 + 1, 1, none⟩ (.int .i64 m.c)).setCell ⟨w.heap.size + 1 + 1, 2, none⟩ (.int .i64 m.n)) :=
    ((hb1x.setCell (by simp; omega) _).setCell (by simp; omega) _).setCell (by simp; omega) _
  refine (toTxS_own _ m.x _ (h.x.stays hbA) hn.x hn.w).mono ?_
  rintro e w2 ⟨Bt, rfl, hv2, hb2⟩
  obtain ⟨hc2, hf2⟩ := bcell hb2
  have hz2 : w1.heap.size ≤ w2.heap.size := by have := hb2.size; simp only [size_setCell] at this; exact this
  have hz2a : w.heap.size + 1 + 1 < w2.heap.size := by omega
  have hz2b : w.heap.size + 1 < w2.heap.size := by omega
  have hz2c : w.heap.size < w2.heap.size := by omega
  have hb2x := hbA.trans (hb2.mono hbA.size)
  simp only [size_setCell] at hv2
  go_wp2_with fail
  have hbB : Below w.heap.size w (w2.setCell ⟨w.heap.size + 1 + 1, 3, none⟩ (Value.slice (some ⟨w1.heap.size, 0, none⟩) m.x.length m.x.length)) := hb2x.setCell (by simp; omega) _
  refine (toEvS_own _ m.h _ (h.h.stays hbB) hn.h).mono ?_
  rintro e w3 ⟨rfl, hv3, hb3⟩
  obtain ⟨hc3, hf3⟩ := bcell hb3
  have hz3 : w2.heap.size ≤ w3.heap.size := by have := hb3.size; simp only [size_setCell] at this; exact this
  have hz3a : w.heap.size + 1 + 1 < w3.heap.size := by omega
  have hb3x := hbB.trans (hb3.mono hbB.size)
  simp only [size_setCell] at hv3
  go_wp2
  refine bodyPost_ret (v := .agg #[.slice (some ⟨bs, 0, none⟩) m.s.length m.s.length, .int .i64 m.c, .int .i64 m.n, .slice (some ⟨w1.heap.size, 0, none⟩) m.x.length m.x.length, .slice (some ⟨w2.heap.size, 0, none⟩) m.h.length m.h.length]) (by simp [results, Tryz.results10, go_sem, hc3, hc2, hc1, hz1a, hz2b]) rfl ⟨bs, Bs, w1.heap.size, Bt, w2.heap.size, rfl, ?_, ?_⟩
  · have hk : ∀ x, w.heap.size + 1 + 1 < x → ∀ u0 u1 u2 u3 u4 u5, ((((((w3.setCell ⟨w.heap.size + 1 + 1, 4, none⟩ u0).setCell ⟨w.heap.size + 1, 0, none⟩ u1).setCell ⟨w.heap.size + 1, 1, none⟩ u2).setCell ⟨w.heap.size + 1, 2, none⟩ u3).setCell ⟨w.heap.size + 1, 3, none⟩ u4).setCell ⟨w.heap.size + 1, 4, none⟩ u5).heap[x]? = w3.heap[x]? := fun x hx u0 u1 u2 u3 u4 u5 => by
      iterate 6 rw [Below.heap_setCell _ _ _ _ (by simp; omega)]
    have k3 : ∀ x, w.heap.size + 1 + 1 < x → x < w2.heap.size → w3.heap[x]? = w2.heap[x]? := fun x hx hx2 => by
      rw [hb3.block x (by simp only [size_setCell]; exact hx2), Below.heap_setCell _ _ _ _ (by simp; omega)]
    have k2 : ∀ x, w.heap.size + 1 + 1 < x → x < w1.heap.size → w2.heap[x]? = w1.heap[x]? := fun x hx hx2 => by
      rw [hb2.block x (by simp only [size_setCell]; exact hx2)]
      iterate 3 rw [Below.heap_setCell _ _ _ _ (by simp; omega)]
    refine ⟨w1.heap.size, w2.heap.size, (hv1.keep fun x h1 h2 h3 => ?_).wide (by omega) (Nat.le_refl _), hv2.keep fun x h1 h2 h3 => ?_, hv3.of_block (hk _ (by omega) _ _ _ _ _ _), hz2, Nat.le_refl _, ?_⟩
    · rw [hk x (by omega), k3 x (by omega) (by omega), k2 x (by omega) h3]
    · rw [hk x (by omega), k3 x (by omega) h3]
    · simp only [size_setCell]; exact hv3.lt
  · exact (((((hb3x.setCell (by simp; omega) _).setCell (by simp) _).setCell (by simp) _).setCell (by simp) _).setCell (by simp) _).setCell (by simp) _

end Go.Proofs.YtmecbppblbmchaaGreatDoor

/- What a call owns, and what the laws' copy is, may be written. -/
namespace Go.Proofs.YtmecbppblbmchaaGreatDoor
open Go.ChangeShapes Go.WideShapes Go.ChangeAt Go.RowKit Go.Sort
set_option linter.unusedVariables false
set_option maxRecDepth 100000
attribute [local go_sem ↓] Go.wp_at_zero Go.wp_at_succ

theorem owns_at {w : World} {base : Nat} {T : TypeId} {s n g c : Nat} {xs : List Value} (h : w.ownsRow base T s (.slice (some ⟨g, 0, none⟩) n c) n xs) : RowOf w g T (n * s) (fun j => (xs[j]?).getD undef) := by
  obtain ⟨h1, h2⟩ := h
  rcases h2 with ⟨e, _⟩ | ⟨g', cap, cur, e, h4, h5, h6, h7, h8, h9⟩
  · cases e
  · have e' : g' = g := by injection e with e; injection e with e; injection e with e; exact e.symm
    subst e'
    have hle : n * s ≤ cur.size := by rw [h8]; exact Nat.mul_le_mul_right s h6
    refine ⟨cur, h5, hle, fun j hj => ?_⟩
    have hget : cur[j]? = xs[j]? := by
      rw [← h9, List.getElem?_take, if_pos hj]; simp
    rw [hget]
    have : j < xs.length := by omega
    simp [List.getElem?_eq_getElem this]

theorem WrM.of_own {base s0 s1 : Nat} {w : World} {vs vt ve : Value} {m : Md} {wv : Nat → Value} (h : OwnM base w s0 s1 vs vt ve m wv) : WrM w base w.heap.size s0 s1 vs vt ve m wv := by
  have hrng : ∀ a, a < m.x.length + 2 → ∀ b, (mv vt ve wv a).ownBlock = some b → (base ≤ b ∧ b < w.heap.size) ∧ ¬ (s0 ≤ b ∧ b < s1) := fun a ha b hb => ⟨h.lt a ha b hb, by have := h.far a ha b hb; omega⟩
  refine ⟨h.s, h.sb.1, h.sb.2.2, ?_, Rr.of_owns h.h, ?_, fun b hb => hrng 1 (by omega) b hb, ?_, Nat.le_refl _⟩
  · obtain ⟨a, c, rfl⟩ := owns_sliceM h.x
    have hx := h.x
    obtain ⟨hx1, hx2⟩ := h.x
    rcases hx2 with ⟨e, h0⟩ | ⟨g, cap, cur, e, _⟩
    · exact .inl ⟨e, h0⟩
    · injection e with e1 e2 e3
      subst e1
      refine .inr ⟨g, c, _, rfl, owns_at hx, fun i hi => ?_, fun i hi => Rr.of_owns (h.xw i hi), fun i hi e => ?_, fun i j hi hj hij b hb => h.apart (i + 2) (j + 2) (by omega) (by omega) (by omega) b hb⟩
      · show ((txc m.x wv)[i * 3 + 2]?).getD undef = wv i
        rw [(txc_get m.x wv hi).2.2]
        rfl
      · exact h.apart 0 (i + 2) (by omega) (by omega) (by omega) g rfl e
  · rintro b (hb | ⟨i, hi, hb⟩)
    · exact hrng 0 (by omega) b hb
    · exact hrng (i + 2) (by omega) b hb
  · rintro b (hb | ⟨i, hi, hb⟩)
    · exact h.apart 0 1 (by omega) (by omega) (by omega) b hb
    · exact h.apart (i + 2) 1 (by omega) (by omega) (by omega) b hb

theorem WrM.of_copy {lo hi : Nat} {w : World} {bs : Nat} {Bs : Nat → Nat} {bt : Nat} {Bt : Nat → Nat} {be : Nat} {m : Md} (h : OwnMC lo hi w bs Bs bt Bt be m) (hhi : hi ≤ w.heap.size) (cs ct ce : Nat) :
    ∃ p wv, WrM w lo hi lo p (.slice (some ⟨bs, 0, none⟩) m.s.length cs) (.slice (some ⟨bt, 0, none⟩) m.x.length ct) (.slice (some ⟨be, 0, none⟩) m.h.length ce) m wv := by
  obtain ⟨p, q, hC, hT, hE, h1, h2, h3⟩ := h
  obtain ⟨t1, t2, f, t3, t4, t5⟩ := hT
  obtain ⟨fe, e1, _⟩ := hE
  have hlp : lo ≤ p := by have := hC.1; have := hC.2.1; omega
  have hob : ∀ i, i < m.x.length → ∀ b, (f (i * 3 + 2)).ownBlock = some b → b = Bt i := fun i hi b hb => by
    obtain ⟨_, _, ⟨c, _, e⟩, _⟩ := t4 i hi
    rw [e] at hb
    simpa [Value.ownBlock] using hb.symm
  have hX : ∀ b, ((Value.slice (some ⟨bt, 0, none⟩) m.x.length ct).ownBlock = some b ∨ ∃ i, i < m.x.length ∧ (f (i * 3 + 2)).ownBlock = some b) → p ≤ b ∧ b < q := by
    rintro b (hb | ⟨i, hi, hb⟩)
    · have : b = bt := by simpa [Value.ownBlock] using hb.symm
      omega
    · have := hob i hi b hb
      obtain ⟨_, _, _, _, g1, g2, _⟩ := t4 i hi
      omega
  have hEb : ∀ b, (Value.slice (some ⟨be, 0, none⟩) m.h.length ce).ownBlock = some b → b = be := fun b hb => by simpa [Value.ownBlock] using hb.symm
  refine ⟨p, fun i => f (i * 3 + 2), ⟨.inr ⟨bs, Bs, cs, rfl, hC⟩, Nat.le_refl _, by omega, .inr ⟨bt, ct, f, rfl, t3, fun i hi => rfl, fun i hi => ?_, fun i hi e => ?_, fun i j hi hj hij b hb hb' => ?_⟩, .inr ⟨be, ce, fe, rfl, e1⟩, fun b hb => by have := hX b hb; omega, fun b hb => by have := hEb b hb; omega, fun b hb hb' => by have := hX b hb; have := hEb b hb'; omega, hhi⟩⟩
  · obtain ⟨_, _, ⟨c, _, e⟩, ⟨g, g1, _⟩, _⟩ := t4 i hi
    exact .inr ⟨_, c, g, e, g1⟩
  · have := hob i hi _ e
    exact (t4 i hi).2.2.2.2.2.2 this.symm
  · have a1 := hob i hi b hb
    have a2 := hob j hj b hb'
    rcases Nat.lt_or_gt_of_ne hij with h | h
    · exact t5 i j h hj (by omega)
    · exact t5 j i h hi (by omega)
end Go.Proofs.YtmecbppblbmchaaGreatDoor

/- szMgr: how great the whole is. -/
namespace Go.Proofs.YtmecbppblbmchaaGreatDoor
open Go.ChangeShapes Go.WideShapes Go.ChangeAt Go.RowKit Go.Sort
set_option linter.unusedVariables false
set_option maxRecDepth 100000
attribute [local go_sem ↓] Go.wp_at_zero Go.wp_at_succ

theorem szRowS_any (v : Value) (l : List Rw) (w : World) {lo hi : Nat} (h : RowsAt lo hi w v l) (left : Int) (h0 : 0 ≤ left) (h1 : left ≤ 1048576) :
    Calls Tryz.prog 98 #[v, .int .i64 left] w fun e w' => ∃ r, e = .returned (.int .i64 r) ∧ r ≤ left ∧ (0 ≤ r → l.length ≤ 1048576) ∧ w' = w := by
  obtain ⟨a, cap, rfl, hm, hc⟩ := h
  clear hc
  unfold maxLen at hm
  by_cases hlt : left - l.length < 0
  · go_enter Tryz.func98, Tryz.ntmps98
    go_wp2
    go_ret
    exact ⟨_, rfl, by omega, by omega, rfl⟩
  · go_enter Tryz.func98, Tryz.ntmps98
    go_wp2
    go_ret
    exact ⟨_, rfl, by omega, by omega, rfl⟩
theorem szEvS_any (v : Value) (l : List Ed) (w : World) {lo hi : Nat} (h : EvsAt lo hi w v l) (left : Int) (h0 : 0 ≤ left) (h1 : left ≤ 1048576) :
    Calls Tryz.prog 26 #[v, .int .i64 left] w fun e w' => ∃ r, e = .returned (.int .i64 r) ∧ r ≤ left ∧ (0 ≤ r → l.length ≤ 1048576) ∧ w' = w := by
  obtain ⟨a, cap, rfl, hm, hc⟩ := h
  clear hc
  unfold maxLen at hm
  by_cases hlt : left - l.length < 0
  · go_enter Tryz.func26, Tryz.ntmps26
    go_wp2
    go_ret
    exact ⟨_, rfl, by omega, by omega, rfl⟩
  · go_enter Tryz.func26, Tryz.ntmps26
    go_wp2
    go_ret
    exact ⟨_, rfl, by omega, by omega, rfl⟩

theorem szTx_any (i s : Int) (v : Value) (l : List Rw) (w : World) {lo hi : Nat} (h : RowsAt lo hi w v l) (left : Int) (h0 : 0 ≤ left) (h1 : left ≤ 1048576) :
    Calls Tryz.prog 56 #[.agg #[.int .i64 i, .int .i64 s, v], .int .i64 left] w fun e w' => ∃ q, e = .returned (.int .i64 q) ∧ q ≤ left ∧ (0 ≤ q → l.length ≤ 1048576) ∧ Below w.heap.size w w' := by
  obtain ⟨a, cap, hv⟩ : ∃ a cap, v = .slice a l.length cap := by obtain ⟨a, cap, h1, _⟩ := h; exact ⟨a, cap, h1⟩
  subst hv
  have hbx : Below w.heap.size w (w.alloc (Obj.cells #[Value.int IntKind.i64 i, Value.int IntKind.i64 s, Value.slice a l.length cap] 88)) := (Below.refl _ _).alloc (Nat.le_refl _) _
  go_enter Tryz.func56, Tryz.ntmps56
  go_wp2_with fail
  refine (szRowS_any _ l _ (h.stays hbx) _ h0 h1).mono ?_
  rintro e w2 ⟨q, rfl, hq, hl, rfl⟩
  by_cases hlt : q < 0
  · go_wp2
    go_ret
    exact ⟨_, rfl, by omega, by omega, hbx⟩
  · go_wp2
    go_ret
    exact ⟨_, rfl, by omega, fun _ => hl (by omega), hbx⟩

theorem szTxS_any (v : Value) (l : List Td) (w : World) {lo hi : Nat} (h : TxsAt lo hi w v l) (left : Int) (h0 : 0 ≤ left) (h1 : left ≤ 1048576) :
    Calls Tryz.prog 25 #[v, .int .i64 left] w fun e w' => ∃ q, e = .returned (.int .i64 q) ∧ q ≤ left ∧ (0 ≤ q → l.length ≤ 1048576 ∧ ∀ i, i < l.length → (tAt l i).w.length ≤ 1048576) ∧ Below w.heap.size w w' := by
  obtain ⟨a, cap, rfl, hm, hc⟩ := h
  unfold maxLen at hm
  by_cases hlt : left - l.length < 0
  · go_enter Tryz.func25, Tryz.ntmps25
    go_wp2
    go_ret
    exact ⟨_, rfl, by omega, by omega, Below.refl _ _⟩
  · go_enter Tryz.func25, Tryz.ntmps25
    go_wp2
    go_loopw [1, 5] (fun q i wr => ∃ (k : Nat) (x : Int), k ≤ l.length ∧ i = .int .i64 k ∧ q = .int .i64 x ∧ 0 ≤ x ∧ x ≤ left ∧ Below w.heap.size w wr ∧ ∀ j, j < k → (tAt l j).w.length ≤ 1048576) (fun _ i _ => l.length - (intOf i).toNat)
    case atStart => exact ⟨0, _, Nat.zero_le _, rfl, rfl, by omega, by omega, Below.refl _ _, fun j hj => absurd hj (Nat.not_lt_zero _)⟩
    case round =>
      obtain ⟨k, x, hk, rfl, rfl, hx0, hx1, hb, hs⟩ := hrel
      by_cases hkl : k < l.length
      · obtain ⟨b, off, rfl, hlo, hhi, hcc⟩ := hc (by omega)
        obtain ⟨c0, c1, a2, cap2, c2, c3⟩ := hcc k hkl
        replace c0 := cell_stays hb c0
        replace c1 := cell_stays hb c1
        replace c2 := cell_stays hb c2
        have c2' : wr.cell? ⟨b, off + k * 3 + 1 + 1, none⟩ = some (.slice a2 (tAt l k).w.length cap2) := c2
        replace c3 := c3.stays hb
        clear hcc hc
        go_wp2_with (go_at_call 56; refine (szTx_any _ _ _ _ _ c3 _ hx0 (by omega)).mono ?_; rintro e w1 ⟨q, rfl, hq, hl, hb1⟩)
        · go_ret
          exact ⟨_, rfl, by omega, by omega, hb.trans (hb1.mono hb.size)⟩
        · go_roundw
          case rel =>
            refine ⟨k + 1, _, by omega, by go_num, rfl, by omega, by omega, hb.trans (hb1.mono hb.size), fun j hj => ?_⟩
            by_cases e : j = k
            · subst e; exact hl (by omega)
            · exact hs j (by omega)
          case measure => simp [intOf]; omega
      · have hkk : k = l.length := by omega
        go_wp2
        go_ret
        exact ⟨_, rfl, by omega, fun _ => ⟨by omega, fun i hi => hs i (by omega)⟩, hb⟩

theorem szMgr_any (vs vt ve : Value) (m : Md) (w : World) {lo hi : Nat} (h : MAt lo hi w vs vt ve m) (left : Int) (h0 : 0 ≤ left) (h1 : left ≤ 1048576) :
    Calls Tryz.prog 8 #[.agg #[vs, .int .i64 m.c, .int .i64 m.n, vt, ve], .int .i64 left] w fun e w' => ∃ q, e = .returned (.int .i64 q) ∧ q ≤ left ∧ (0 ≤ q → SmallM m) ∧ Below w.heap.size w w' := by
  obtain ⟨a1, caps, hvs⟩ : ∃ a cap, vs = .slice a m.s.length cap := by obtain ⟨a, cap, h1, _⟩ := h.s; exact ⟨a, cap, h1⟩
  obtain ⟨a2, capt, hvt⟩ : ∃ a cap, vt = .slice a m.x.length cap := by obtain ⟨a, cap, h1, _⟩ := h.x; exact ⟨a, cap, h1⟩
  obtain ⟨a3, cape, hve⟩ : ∃ a cap, ve = .slice a m.h.length cap := by obtain ⟨a, cap, h1, _⟩ := h.h; exact ⟨a, cap, h1⟩
  subst hvs hvt hve
  have hbx : Below w.heap.size w (w.alloc (Obj.cells #[Value.slice a1 m.s.length caps, .int .i64 m.c, .int .i64 m.n, Value.slice a2 m.x.length capt, Value.slice a3 m.h.length cape] 28)) := (Below.refl _ _).alloc (Nat.le_refl _) _
  go_enter Tryz.func8, Tryz.ntmps8
  go_wp2_with fail
  refine (szStore_any _ m.s _ (h.s.stays hbx) _ h0 h1).mono ?_
  rintro e w1 ⟨q, rfl, hq, hl, hb1⟩
  obtain ⟨hc1, hf1⟩ := bcell hb1
  have hb2 := hbx.trans (hb1.mono hbx.size)
  by_cases hlt : q < 0
  · go_wp2
    go_ret
    exact ⟨_, rfl, by omega, by omega, hb2⟩
  go_wp2_with fail
  refine (szTxS_any _ m.x _ (h.x.stays hb2) _ (by omega) (by omega)).mono ?_
  rintro e w3 ⟨q3, rfl, hq3, hl3, hb3⟩
  obtain ⟨hc3, hf3⟩ := bcell hb3
  have hz3 : w.heap.size < w1.heap.size := by have := hb1.size; simp at this; omega
  have hb4 := hb2.trans (hb3.mono hb2.size)
  by_cases hlt3 : q3 < 0
  · go_wp2
    go_ret
    exact ⟨_, rfl, by omega, by omega, hb4⟩
  go_wp2_with fail
  refine (szEvS_any _ m.h _ (h.h.stays hb4) _ (by omega) (by omega)).mono ?_
  rintro e w5 ⟨q5, rfl, hq5, hl5, rfl⟩
  by_cases hlt5 : q5 < 0
  · go_wp2
    go_ret
    exact ⟨_, rfl, by omega, by omega, hb4⟩
  go_wp2
  go_ret
  exact ⟨_, rfl, by omega, fun _ => ⟨hl (by omega), (hl3 (by omega)).1, (hl3 (by omega)).2, hl5 (by omega)⟩, hb4⟩

end Go.Proofs.YtmecbppblbmchaaGreatDoor
