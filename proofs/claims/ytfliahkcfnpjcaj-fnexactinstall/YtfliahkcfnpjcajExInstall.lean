/- For every store, hour and rows, the exact law of Install returns true and its arguments read afterwards as they read before. -/
import Derived.Test.YtfliahkcfnpjcajInstEq
import Derived.Test.YtfliahkcfnpjcajOwnTs
import Derived.Test.YtfliahkcfnpjcajRows3
import Derived.Test.YtfliahkcfnpjcajMCopy
import Derived.Test.YtfliahkcfnpjcajMSize
import Derived.Test.YtfliahkcfnpjcajMEq
import Derived.Test.YtfliahkcfnpjcajMOpen
import Derived.ChangeOld
namespace Go.Proofs.Ytfliahkcfnpjcaj
open Go.ChangeShapes Go.WideShapes Go.ChangeAt Go.RowKit Go.Sort
set_option linter.unusedVariables false
set_option maxRecDepth 100000
attribute [local go_sem ↓] Go.wp_at_zero Go.wp_at_succ

/-- What Install answers, one way for both. -/
def InOk (l : List Ch) (h : Int) (r : List Rw) : Prop := Args l h r ∧ ∀ ks, InstKeys l r ks → ks.length ≤ 200
def InAns (l : List Ch) (h : Int) (r : List Rw) (out : List Ch) (b : Bool) : Prop := (¬ InOk l h r ∧ out = [] ∧ b = false) ∨ (InOk l h r ∧ b = true ∧ ∃ ks, InstKeys l r ks ∧ out = chainsOf ks (instL l h r))
theorem InAns.one {l : List Ch} {h : Int} {r : List Rw} {a a' : List Ch} {b b' : Bool} (ha : InAns l h r a b) (hb : InAns l h r a' b') : a = a' ∧ b = b' := by
  rcases ha with ⟨h1, rfl, rfl⟩ | ⟨h1, rfl, ks, hk, rfl⟩ <;> rcases hb with ⟨g1, rfl, rfl⟩ | ⟨g1, rfl, ks', hk', rfl⟩
  · exact ⟨rfl, rfl⟩
  · exact absurd g1 h1
  · exact absurd h1 g1
  · rw [instKeys_one hk hk']; exact ⟨rfl, rfl⟩
theorem InAns.small {l : List Ch} {h : Int} {r : List Rw} {a : List Ch} {b : Bool} (ha : InAns l h r a b) : Small a := by
  rcases ha with ⟨h1, rfl, rfl⟩ | ⟨h1, rfl, ks, hk, rfl⟩
  · exact ⟨Nat.zero_le _, fun i hi => absurd hi (Nat.not_lt_zero _)⟩
  · have hlen := h1.2 ks hk
    refine ⟨by rw [chainsOf_length]; omega, fun i hi => ?_⟩
    rw [chainsOf_length] at hi
    rw [chainsOf_at ks _ hi]
    show (instL _ _ _ _ _).length ≤ _
    have hs := h1.1.1
    have hl : (listAt l (vAt ks i).1 (vAt ks i).2).length ≤ 200 := by
      by_cases hex : ∃ j, j < l.length ∧ km l j (vAt ks i).1 (vAt ks i).2
      · obtain ⟨j, hj, hkm⟩ := hex
        rw [listAt_is hs hj hkm]
        exact (hs.2 j hj).2.2.2.1
      · rw [listAt_none fun j hj hkm => hex ⟨j, hj, hkm⟩]
        simp
    unfold instL
    rw [List.length_append]
    cases lv r r.length (vAt ks i).1 (vAt ks i).2 <;> simp <;> omega

theorem sargs_of_args {l : List Ch} {h : Int} {r : List Rw} (hwr : WfRw r) (ha : Args l h r) : SArgs l h r := by
  obtain ⟨hs, hh, h0, hf⟩ := ha
  have hhr := (hour_iff h).1 hh
  refine ⟨hs, by omega, hh, fun i hi => ?_⟩
  obtain ⟨v, hv⟩ := lv_row (r := r) hi
  have := hf _ _ (hwr i hi).1 (hwr i hi).2 v hv
  exact ⟨this.1, this.2.1⟩

/-- An answer in memory. -/
def InA (lo : Nat) (w' : World) (l : List Ch) (h : Int) (r : List Rw) (e : Ending) : Prop := ∃ a n c out b, e = .returned (.tuple #[.agg #[.slice a n c], .bool b]) ∧ OwnS lo w' (.slice a n c) out ∧ InAns l h r out b

theorem ownS_form {lo : Nat} {w : World} {v : Value} {l : List Ch} (h : OwnS lo w v l) : ∃ a n c, v = .slice a n c := by
  rcases h with ⟨rfl, _⟩ | ⟨b, Bs, cap, rfl, _⟩
  · exact ⟨_, _, _, rfl⟩
  · exact ⟨_, _, _, rfl⟩

theorem IAns.inA {lo : Nat} {w' : World} {l : List Ch} {h : Int} {r : List Rw} {e : Ending} (ha : IAns lo w' l h r e) : InA lo w' l h r e := by
  rcases ha with ⟨h1, rfl⟩ | ⟨h1, n, ks, hk, rfl, hn, rfl⟩ | ⟨h1, ks, v', hk, hn, rfl, ho⟩
  · exact ⟨_, _, _, [], false, rfl, .inl ⟨rfl, rfl⟩, .inl ⟨fun h => h1 h.1, rfl, rfl⟩⟩
  · exact ⟨_, _, _, [], false, rfl, .inl ⟨rfl, rfl⟩, .inl ⟨fun h => by have := h.2 ks hk; omega, rfl, rfl⟩⟩
  · obtain ⟨a, n, c, rfl⟩ := ownS_form ho
    exact ⟨_, _, _, _, true, rfl, ho, .inr ⟨⟨h1, fun ks' hk' => by rw [instKeys_one hk' hk]; exact hn⟩, rfl, ks, hk, rfl⟩⟩

theorem SAns.inA {lo : Nat} {w' : World} {l : List Ch} {h : Int} {r : List Rw} {e : Ending} (hw : WfCh l) (hwr : WfRw r) (ha : SAns lo w' l h r e) : InA lo w' l h r e := by
  rcases ha with ⟨h1, rfl⟩ | ⟨h1, L, hP, hL⟩
  · exact ⟨_, _, _, [], false, rfl, .inl ⟨rfl, rfl⟩, .inl ⟨fun h => h1 (sargs_of_args hwr h.1), rfl, rfl⟩⟩
  · obtain ⟨hk, hLe⟩ := Puts.done h1.1 hw hwr hP
    have hsame := inst_same (h := h) hw hwr hk
    rw [← hLe] at hsame
    rcases hL with ⟨h2, rfl⟩ | ⟨h2, v', rfl, ho⟩
    · exact ⟨_, _, _, [], false, rfl, .inl ⟨rfl, rfl⟩, .inl ⟨fun h => h2 (hsame.2 ⟨h.1, h.2 _ hk⟩).2, rfl, rfl⟩⟩
    · obtain ⟨h3, h4⟩ := hsame.1 ⟨h1, h2⟩
      obtain ⟨a, n, c, rfl⟩ := ownS_form ho
      exact ⟨_, _, _, L, true, rfl, ho, .inr ⟨⟨h3, fun ks' hk' => by rw [instKeys_one hk' hk]; exact h4⟩, rfl, _, hk, hLe⟩⟩

/-- The boxes of the argument, of the two answers and of the copy. -/
def PBoxI (w : World) (va : Value) (b3 : Nat) (vw : Value) (b4 : Nat) (vx : Value) (b5 : Nat) (vg : Value) (x : World) : Prop := Below w.heap.size w x ∧ x.cell? ⟨w.heap.size, 0, none⟩ = some va ∧ x.cell? ⟨b3, 0, none⟩ = some vw ∧ x.cell? ⟨b4, 0, none⟩ = some vx ∧ x.cell? ⟨b5, 0, none⟩ = some vg
theorem PBoxI.kept {w x y : World} {va vw vx vg : Value} {b3 b4 b5 : Nat} (h : PBoxI w va b3 vw b4 vx b5 vg x) (hb : Below x.heap.size x y) : PBoxI w va b3 vw b4 vx b5 vg y :=
  ⟨h.1.trans (hb.mono h.1.size), cell_stays hb h.2.1, cell_stays hb h.2.2.1, cell_stays hb h.2.2.2.1, cell_stays hb h.2.2.2.2⟩
theorem PBoxI.mark {w x y : World} {va vw vx vg : Value} {b3 b4 b5 : Nat} (h : PBoxI w va b3 vw b4 vx b5 vg x) {lo hi : Nat} (hk : ∀ k, ¬ (lo ≤ k ∧ k < hi) → k < x.heap.size → y.heap[k]? = x.heap[k]?) (h1 : y.os = x.os) (h2 : y.tape = x.tape) (h3 : y.output = x.output) (h4 : x.heap.size ≤ y.heap.size)
    (n1 : w.heap.size < lo) (n3 : ¬ (lo ≤ b3 ∧ b3 < hi)) (n4 : ¬ (lo ≤ b4 ∧ b4 < hi)) (n5 : ¬ (lo ≤ b5 ∧ b5 < hi)) : PBoxI w va b3 vw b4 vx b5 vg y := by
  have hz := h.1.size
  exact ⟨h.1.trans ⟨h1, h2, h3, h4, fun k hk' => hk k (by omega) (by omega)⟩, cell_same (hk w.heap.size (by omega) (cell_lt h.2.1)) h.2.1, cell_same (hk _ n3 (cell_lt h.2.2.1)) h.2.2.1, cell_same (hk _ n4 (cell_lt h.2.2.2.1)) h.2.2.2.1, cell_same (hk _ n5 (cell_lt h.2.2.2.2)) h.2.2.2.2⟩

set_option maxHeartbeats 8000000 in
theorem exactInstall_any (v : Value) (l : List Ch) (h : Int) (vr : Value) (r : List Rw) (w : World) {lo hi lo' hi' : Nat} (hl : ChainsAt lo hi w v l) (hr : RowsAt lo' hi' w vr r) (hw : WfCh l) (hwr : WfRw r) :
    Calls Try.prog 4 #[.agg #[v], .int .i64 h, vr] w fun e w' => e = .returned (.bool true) ∧ Below w.heap.size w w' := by
  obtain ⟨a, cap, hv⟩ : ∃ a cap, v = .slice a l.length cap := by obtain ⟨a, cap, h1, _⟩ := hl; exact ⟨a, cap, h1⟩
  subst hv
  obtain ⟨ra, rcap, hv⟩ : ∃ a cap, vr = .slice a r.length cap := by obtain ⟨a, cap, h1, _⟩ := hr; exact ⟨a, cap, h1⟩
  subst hv
  have b0 : Below w.heap.size w (w.alloc (Obj.cells #[Value.slice a l.length cap] 24)) := (Below.refl _ _).alloc (Nat.le_refl _) _
  have p0 : (w.alloc (Obj.cells #[Value.slice a l.length cap] 24)).cell? ⟨w.heap.size, 0, none⟩ = some (.slice a l.length cap) := by simp [go_sem]
  go_enter Try.func4, Try.ntmps4
  go_wp2_with fail
  refine (szStore_any _ l _ (hl.stays b0) _ (by omega) (by omega)).mono ?_
  rintro e w1 ⟨q, rfl, hq1, hq2, hb1⟩
  have b1 := b0.trans (hb1.mono b0.size)
  have p1 := cell_stays hb1 p0
  clear b0 p0 hb1
  by_cases hneg : q < 0
  · go_wp2
    go_ret
    exact ⟨rfl, b1⟩
  have hs := hq2 (by omega)
  have hn := hs.1
  clear hq2
  go_wp2_with fail
  refine (szRowS_any _ r _ (hr.stays b1) _ (by omega) (by omega)).mono ?_
  rintro e w1' ⟨q', rfl, hq3, hq4, rfl⟩
  by_cases hneg2 : q' < 0
  · go_wp2
    go_ret
    exact ⟨rfl, b1⟩
  have hnr := hq4 (by omega)
  clear hq4
  go_wp2_with fail
  refine (toStore_any _ l _ (hl.stays b1) hs).mono ?_
  rintro e w2 ⟨a2, c2, rfl, hv2, hb2⟩
  have b2 := b1.trans (hb2.mono b1.size)
  have p2 := cell_stays hb2 p1
  clear b1 p1 hb2
  go_wp2_with fail
  refine (toRowS_own _ r _ (hr.stays b2) hnr).mono ?_
  rintro e wq ⟨rfl, hOq, hbq⟩
  have bq := b2.trans (hbq.mono b2.size)
  have pq := cell_stays hbq p2
  have hzq : w2.heap.size < wq.heap.size := hOq.lt
  go_wp2_with fail
  refine (specInstall_own _ l h _ r _ (hv2.stays hbq) (hOq.rows (lo := w2.heap.size) (hi := wq.heap.size) (Nat.le_refl _) hzq hnr) hs hnr).mono ?_
  rintro e w3 ⟨hsa, hb3⟩
  obtain ⟨a3, n3, c3, out, b3o, rfl, hr3, hans⟩ := hsa.inA hw hwr
  have b3 := bq.trans (hb3.mono bq.size)
  have p3 := cell_stays hb3 pq
  have ho := hans.small
  have hws : w.heap.size < w3.heap.size := cell_lt p3
  clear b2 p2 bq pq hb3 hv2 hbq hOq hsa
  have bA := below_alloc w3 (Obj.cells #[Value.slice a3 n3 c3] 31)
  go_wp2_with fail
  refine (toStore_own _ l _ (hl.stays (b3.trans (bA.mono b3.size))) hs).mono ?_
  rintro e w4 ⟨b4, Bs, rfl, ho4, hb4⟩
  have pw4 : w4.cell? ⟨w3.heap.size, 0, none⟩ = some (.slice a3 n3 c3) := cell_stays hb4 (by simp [go_sem])
  have p4 := cell_stays hb4 (cell_stays bA p3)
  have b4' := (b3.trans (bA.mono b3.size)).trans (hb4.mono (b3.trans (bA.mono b3.size)).size)
  have hr4 := ((hr3.chains ho).stays bA).stays hb4
  clear bA b3 p3 hr3
  have bB := below_alloc w4 (Obj.cells #[Value.slice (some ⟨b4, 0, none⟩) l.length l.length] 31)
  have b4b := b4'.trans (bB.mono b4'.size)
  go_wp2_with fail
  refine (toRowS_own _ r _ (hr.stays b4b) hnr).mono ?_
  rintro e w5 ⟨rfl, hO5, hb5⟩
  have bB5 := bB.trans (hb5.mono bB.size)
  have px5 : w5.cell? ⟨w4.heap.size, 0, none⟩ = some (.slice (some ⟨b4, 0, none⟩) l.length l.length) := cell_stays hb5 (by simp [go_sem])
  have hzB : (w4.alloc (Obj.cells #[Value.slice (some ⟨b4, 0, none⟩) l.length l.length] 31)).heap.size = w4.heap.size + 1 := by simp
  rw [hzB] at hO5 ⊢
  have h45 : w4.heap.size + 1 < w5.heap.size := hO5.lt
  clear hzB
  go_wp2_with fail
  refine (implInstall_own _ l h _ r _ ((ho4.chains hs).stays bB5) (hO5.rows (lo := 0) (hi := w5.heap.size) (Nat.zero_le _) h45 hnr) hw hwr hs hnr).mono ?_
  rintro e w6 ⟨hia, hb6⟩
  obtain ⟨a6, n6, c6, out', b6o, rfl, hr6, hans'⟩ := hia.inA
  obtain ⟨rfl, rfl⟩ := hans.one hans'
  have bC := below_alloc w6 (Obj.cells #[Value.slice a6 n6 c6] 31)
  have b56 := hb6.trans (bC.mono hb6.size)
  have b46 := bB5.trans (b56.mono bB5.size)
  have S6 : PBoxI w (.slice a l.length cap) w3.heap.size (.slice a3 n3 c3) w4.heap.size (.slice (some ⟨b4, 0, none⟩) l.length l.length) w6.heap.size (.slice a6 n6 c6) (w6.alloc (Obj.cells #[Value.slice a6 n6 c6] 31)) :=
    ⟨b4'.trans (b46.mono b4'.size), cell_stays b46 p4, cell_stays b46 pw4, cell_stays b56 px5, by simp [go_sem]⟩
  have ho6 := ho4.stays b46
  have hw6 := hr4.stays b46
  have hg6 : OwnT w5.heap.size w6.heap.size _ _ out := (show OwnT _ w6.heap.size w6 _ out from hr6).stays bC
  have hO6 := hO5.of_block (b56.block _ h45)
  simp only [World.size_alloc] at ho6
  have z34 : w3.heap.size < w4.heap.size := cell_lt pw4
  have z56 : w5.heap.size ≤ w6.heap.size := hb6.size
  clear bB bC bB5 b46 hr6 hr4 ho4 pw4 p4 b4' hb4 hb5 hans' b4b b56 px5 hia hb6 hO5
  obtain ⟨_, pa, pw, px, pg⟩ := id S6
  go_wp2_with fail
  generalize (w6.alloc (Obj.cells #[Value.slice a6 n6 c6] 31)) = wA at *
  refine (eqStore_same _ _ out _ (hg6.chains ho) hw6).mono ?_
  rintro e w7 ⟨rfl, hb7⟩
  have S7 := S6.kept hb7
  have ho7 := ho6.stays hb7
  have hw7 := hw6.stays hb7
  have hg7 := hg6.stays hb7
  have hO7 := hO6.of_block (hb7.block _ hO6.lt)
  clear S6 ho6 hw6 hg6 hO6 hb7 pa pw px pg
  have TA : ∀ x, Below w7.heap.size w7 x → Below w.heap.size w x ∧ x.cell? ⟨w.heap.size, 0, none⟩ = some (.slice a l.length cap) ∧ x.cell? ⟨w4.heap.size, 0, none⟩ = some (.slice (some ⟨b4, 0, none⟩) l.length l.length) := fun x hx => ⟨(S7.kept hx).1, (S7.kept hx).2.1, (S7.kept hx).2.2.2.1⟩
  go_wp2_with fail
  refine region_last (fun x => Below w.heap.size w x ∧ x.cell? ⟨w.heap.size, 0, none⟩ = some (.slice a l.length cap) ∧ x.cell? ⟨w4.heap.size, 0, none⟩ = some (.slice (some ⟨b4, 0, none⟩) l.length l.length)) (by kernel_rfl) (by kernel_rfl) (by kernel_rfl) (TA _ (Below.refl _ _).drew) (fun hHeld => ?_)
  simp only [List.dropLast, List.length_cons, List.length_nil, Nat.reduceAdd]
  refine takeL (i := 0) (v := ?_) rfl (by kernel_rfl) (by kernel_rfl) (by kernel_rfl) (fun _ _ _ h => h) rfl (by assumption) ?_ ?_
  rotate_left
  · (intro wS hSw; (try dsimp only at hSw); go_simp; try with_reducible rfl)
  (try simp only [Act.put, List.setIfInBounds_toArray, List.set_cons_zero, List.set_cons_succ])
  refine takeL (i := 1) (v := ?_) rfl (by kernel_rfl) (by kernel_rfl) (by kernel_rfl) (fun _ _ _ h => h) rfl (by assumption) ?_ ?_
  rotate_left
  · (intro wS hSw; (try dsimp only at hSw); go_simp; try with_reducible rfl)
  (try simp only [Act.put, List.setIfInBounds_toArray, List.set_cons_zero, List.set_cons_succ])
  refine stepL (i := 2) rfl (by kernel_rfl) (fun K hK => ?_)
  rw [if_pos (by rfl)]
  go_simp
  refine (toStore_any _ l _ (hl.stays (TA _ (Below.refl _ _).drew).1) hs).mono ?_
  rintro e w8 ⟨a8, c8, rfl, hv8, hb8⟩
  have t78 : Below w7.heap.size w7 w8 := (Below.refl _ _).drew.trans hb8
  refine hK.out _ _ (TA _ t78) (fun hHeld2 => ?_)
  clear hK K hHeld
  (try simp only [Act.put, List.setIfInBounds_toArray, List.set_cons_zero, List.set_cons_succ])
  refine stepL (i := 3) rfl (by kernel_rfl) (fun K hK => ?_)
  rw [if_pos (by rfl)]
  go_simp
  refine (eqStore_same _ _ l _ ((ho7.stays t78).chains hs) hv8).mono ?_
  rintro e w9 ⟨rfl, hb9⟩
  have t79 := t78.trans (hb9.mono t78.size)
  refine hK.out _ _ (TA _ t79) (fun hHeld3 => ?_)
  clear hK K hHeld2
  (try simp only [Act.put, List.setIfInBounds_toArray, List.set_cons_zero, List.set_cons_succ])
  refine wpAnyH_done (by kernel_rfl) ?_ _
  refine lastL (n := 4) rfl rfl ?_
  go_simp
  have S9 := S7.kept t79
  have ho9 := ho7.stays t79
  have hw9 := hw7.stays t79
  have hg9 := hg7.stays t79
  have hO9 := hO7.of_block (t79.block _ hO7.lt)
  clear hHeld3 TA S7 ho7 hw7 hg7 hO7 t78 t79 hv8 hb8 hb9
  go_wp2_with fail
  refine (toRowS_own _ r _ (hr.stays S9.1) hnr).mono ?_
  rintro e w10 ⟨rfl, hO10, hb10⟩
  have hO10' := hO9.of_block (hb10.block _ hO9.lt)
  have hz10 : w9.heap.size < w10.heap.size := hO10.lt
  have h4w10 : w4.heap.size + 1 < w10.heap.size := hO10'.lt
  go_wp2_with fail
  refine (eqRowS_at _ _ r _ (hO10'.rows (lo := 0) (hi := w10.heap.size) (Nat.zero_le _) h4w10 hnr) (hO10.rows (lo := 0) (hi := w10.heap.size) (Nat.zero_le _) hz10 hnr)).mono ?_
  rintro e w11 ⟨rfl, hb11⟩
  have t911 := hb10.trans (hb11.mono hb10.size)
  have S11 := S9.kept t911
  have ho11 := ho9.stays t911
  have hw11 := hw9.stays t911
  have hg11 := hg9.stays t911
  have hO11 := hO10'.of_block (hb11.block _ h4w10)
  have z611 : w6.heap.size < w11.heap.size := cell_lt S11.2.2.2.2
  clear S9 ho9 hw9 hg9 hO9 hO10 hO10' hb10 hb11 t911 hz10 h4w10
  obtain ⟨_, pa, pw, px, pg⟩ := id S11
  go_wp2_with fail
  refine (markStore_any b4 Bs l l.length 1 _ ho11 hs (by omega) (by omega)).mono ?_
  rintro e w12 ⟨rfl, hk12, h121, h122, h123, hz12, _⟩
  have S12 := S11.mark hk12 h121 h122 h123 hz12 (by omega) (by omega) (by omega) (by omega)
  have hw12 := hw11.keep fun b h1 h2 h3 => hk12 b (by omega) h3
  have hg12 := hg11.keep fun b h1 h2 h3 => hk12 b (by omega) h3
  have hO12 := hO11.of_block (hk12 _ (by omega) hO11.lt)
  have hmb := mk_bound hs (Nat.le_refl _)
  clear S11 ho11 hw11 hg11 hO11 pa pw px pg hk12 h121 h122 h123
  go_wp2_with fail
  refine (markRowS_at (w4.heap.size + 1) r.length r (1 + mk l l.length) _ hO12 hnr (by omega)).mono ?_
  rintro e w13 ⟨rfl, hW13⟩
  have hz13 : w13.heap.size = w12.heap.size := hW13.size
  have hk13 : ∀ k, ¬ (w4.heap.size + 1 ≤ k ∧ k < w4.heap.size + 2) → k < w12.heap.size → w13.heap[k]? = w12.heap[k]? := fun k hk _ => hW13.block k (by omega)
  have S13 := S12.mark hk13 hW13.os hW13.tape hW13.output (by omega) (by omega) (by omega) (by omega) (by omega)
  have hw13 := hw12.keep fun b h1 h2 h3 => hk13 b (by omega) h3
  have hg13 := hg12.keep fun b h1 h2 h3 => hk13 b (by omega) h3
  clear S12 hw12 hg12 hO12 hk13 hW13
  have hnn : ¬ ((1 + mk l l.length + 3 * r.length : Nat) : Int) < 0 := by omega
  generalize ((1 + mk l l.length + 3 * r.length : Nat) : Int) = kk at hnn ⊢
  obtain ⟨_, pa, pw, px, pg⟩ := id S13
  go_wp2_with fail
  refine (eqStore_same _ _ out _ (hg13.chains ho) hw13).mono ?_
  rintro e w14 ⟨rfl, hb14⟩
  have S14 := S13.kept hb14
  have hw14 := hw13.stays hb14
  have hg14 := hg13.stays hb14
  have z614 : w6.heap.size < w14.heap.size := cell_lt S14.2.2.2.2
  clear S13 hw13 hg13 hb14 pa pw px pg hz13
  obtain ⟨_, pa, pw, px, pg⟩ := id S14
  go_wp2_with fail
  refine (markT_any _ out _ hg14 ho (by omega)).mono ?_
  rintro e w15 ⟨rfl, hk15, h151, h152, h153, hz15, hm15⟩
  have S15 := S14.mark hk15 h151 h152 h153 hz15 (by omega) (by omega) (by omega) (by omega)
  have hw15 := hw14.keep fun b h1 h2 h3 => hk15 b (by omega) h3
  have hmo := mk_bound ho (Nat.le_refl _)
  clear S14 hw14 hg14 pa pw px pg hk15 h151 h152 h153
  obtain ⟨_, pa, pw, px, pg⟩ := id S15
  go_wp2_with fail
  refine (heldT_any _ out _ hm15 ho).mono ?_
  rintro e w16 ⟨rfl, hb16⟩
  have S16 := S15.kept hb16
  have hw16 := hw15.stays hb16
  have hm16 := hm15.stays hb16
  clear S15 hw15 hm15 hb16 pa pw px pg
  obtain ⟨_, pa, pw, px, pg⟩ := id S16
  go_wp2_with fail
  refine (toStore_any _ l _ (hl.stays S16.1) hs).mono ?_
  rintro e w17 ⟨a17, c17, rfl, hv17, hb17⟩
  have S17 := S16.kept hb17
  have hw17 := hw16.stays hb17
  have hm17 := hm16.stays hb17
  clear S16 hw16 hm16 hb17 pa pw px pg
  go_wp2_with fail
  refine (toRowS_own _ r _ (hr.stays S17.1) hnr).mono ?_
  rintro e w18 ⟨rfl, hO18, hb18⟩
  have S18 := S17.kept hb18
  have hw18 := hw17.stays hb18
  have hm18 := hm17.stays hb18
  have hv18 := hv17.stays hb18
  have hz18 : w17.heap.size < w18.heap.size := hO18.lt
  clear S17 hw17 hm17 hb18 hv17
  go_wp2_with fail
  refine (implInstall_own _ l h _ r _ hv18 (hO18.rows (lo := 0) (hi := w18.heap.size) (Nat.zero_le _) hz18 hnr) hw hwr hs hnr).mono ?_
  rintro e w19 ⟨hia, hb19⟩
  obtain ⟨a19, n19, c19, out2, b19, rfl, hr19, hans2⟩ := hia.inA
  obtain ⟨rfl, rfl⟩ := hans.one hans2
  have bD := below_alloc w19 (Obj.cells #[Value.slice a19 n19 c19] 31)
  have t19 := hb19.trans (bD.mono hb19.size)
  have S19 := S18.kept t19
  have hw19 := hw18.stays t19
  have hm19 := hm18.stays t19
  have hg19 := (hr19.chains ho).stays bD
  clear S18 hw18 hm18 hb19 hr19 bD t19 hia hans2 hv18 hO18
  obtain ⟨_, pa, pw, px, pg⟩ := id S19
  go_wp2_with fail
  refine (eqStore_same _ _ out _ hg19 hw19).mono ?_
  rintro e w20 ⟨rfl, hb20⟩
  have S20 := S19.kept hb20
  have hm20 := hm19.stays hb20
  clear S19 hw19 hm19 hg19 hb20 pa pw px pg
  obtain ⟨_, pa, pw, px, pg⟩ := id S20
  go_wp2_with fail
  refine (heldT_any _ out _ hm20 ho).mono ?_
  rintro e w21 ⟨rfl, hb21⟩
  have S21 := S20.kept hb21
  clear S20 hm20 pa pw px pg hb21
  go_wp2
  go_ret
  exact ⟨rfl, S21.1⟩

theorem ownI : ownKnob Try.prog.godebug = none := by kernel_rfl
theorem laidOutI : laidOutB Try.prog = true := by kernel_rfl

theorem open_rowsArg {H : Type} {enc : TypeId × Value → H} {W : World} {rc : Reach} {b0 : Nat} {v0 : Value} {d : DataW H} {p : List MemPlace} (hv : Value.okWide Try.prog W rc b0 37 v0) (h : DataW.Trod enc Try.prog W 0 (fun _ => true) true 37 v0 d p) :
    ∃ a n cap l, v0 = .slice a n cap ∧ n = l.length ∧ RowsAt 0 W.heap.size W (.slice a n cap) l ∧ WfRw l := by
  obtain ⟨fuel, hf⟩ := h
  obtain ⟨a, n, cap, l, e, hn, hR, hW⟩ := open_rows hf
  refine ⟨a, n, cap, l, ?_, hn, hR, hW⟩
  obtain ⟨a', n', c', e'⟩ := okWide_slice Try.underlying37 hv
  subst e'
  simpa [Value.cells] using e

theorem liftedInstall (os : Os) (started : os.Started) (H : Type) (enc : TypeId × Value → H) :
    ReturnsInHanded {} Try.checked os 4 .any (Rows.fnExactInstallSpec.pre6 enc Try.prog Try.f4 Rows.fnExactInstallRow.domain false) (Rows.fnExactInstallSpec.post enc Try.prog Try.f4 false true false false) := by
  refine returnsInHanded_of_change (C := Try.checked) ownI started (by kernel_rfl) Try.func4
    (ChangeSpec.witness6 (enc := enc) (C := Try.checked) false ⟨#[], #[.agg #[.slice none 0 0], .int .i64 0, .slice none 0 0], []⟩ 8 (by kernel_rfl) (by kernel_rfl) (by kernel_rfl) (by kernel_rfl)) ?_
  intro W base args ds gs before hval0 hW hcnd _
  have hval : ∀ (j : Nat) t v, Try.f4.params[j]? = some t → args[j]? = some v → Value.okWide Try.prog W .any base t v := hval0
  have hW' := hW
  obtain ⟨p, q, hA0, hV, rfl, hfz, hnd⟩ := hW
  have hA : DataW.TrodAll enc Try.prog W 0 (fun _ => true) true Try.f4.params.toList args.toList ds p := hA0
  rw [Try.params4] at hA hval
  obtain ⟨v0, vs0, d0, ds0, p0, q0, hargs, rfl, rfl, h0, r0⟩ := trodAll_cons hA
  obtain ⟨v1, vs1, d1, ds1, p1, q1, rfl, rfl, rfl, h1, r1⟩ := trodAll_cons r0
  obtain ⟨v2, vs2, d2, ds2, p2, q2, rfl, rfl, rfl, h2, r2⟩ := trodAll_cons r1
  obtain ⟨rfl, rfl, rfl⟩ := trodAll_nil r2
  obtain rfl : args = #[v0, v1, v2] := by cases args; simp_all
  obtain ⟨rfl, rfl⟩ := trodVars_none hV
  have k0 := h0
  have lt0 : ∀ x ∈ p0, x.block < W.heap.size := by obtain ⟨m, hm⟩ := k0; exact DataW.trod_lt m _ _ _ hm
  have k2 := h2
  have lt2 : ∀ x ∈ p2, x.block < W.heap.size := by obtain ⟨m, hm⟩ := k2; exact DataW.trod_lt m _ _ _ hm
  obtain ⟨v, l, rfl, hl, hw⟩ := open_store (hval 0 24 v0 rfl rfl) h0
  obtain ⟨hr, rfl, rfl, rfl, wh⟩ := open_int Try.underlying3 (hval 1 3 v1 rfl rfl) h1
  obtain ⟨ra, rn, rc, rl, rfl, rfl, hrl, hrw⟩ := open_rowsArg (hval 2 37 v2 rfl rfl) h2
  clear hA0 hval0
  refine (exactInstall_any v l hr _ rl W hl hrl hw hrw).mono fun e W' ⟨he, bel⟩ => ?_
  subst he
  exact ⟨_, rfl, _, _, _, [], _, [], hW', trodAll_mk1 (shut_bool Try.underlying4 _), trodAll_cons_mk (Below.trod laidOutI (by kernel_rfl) (of_decide_eq_true (by kernel_rfl)) k0 bel lt0) (trodAll_cons_mk (shut_int Try.underlying3 wh) (trodAll_cons_mk (Below.trod laidOutI (by kernel_rfl) (of_decide_eq_true (by kernel_rfl)) k2 bel lt2) trodAll_mk0)), rfl, bel.frame _, fun h => by cases h⟩

theorem exactInstall_holds : Rows.FnExactInstallSaid :=
  OpenClaim.holds_of_wide 4 Try.f4 rfl rfl rfl rfl rfl rfl rfl ⟨rfl, rfl, rfl, rfl, rfl⟩ rfl rfl rfl rfl rfl (by kernel_rfl) Try.func4 (by kernel_rfl)
    (of_decide_eq_true (by kernel_rfl)) (by unfold Func.isWrapper; first | (rw [if_pos (by decide +kernel)]; kernel_rfl) | (rw [if_neg (by decide +kernel)]; exact ⟨rfl, rfl⟩))
    (fun os started H enc _ => liftedInstall os started H enc)

#print axioms exactInstall_holds

end Go.Proofs.Ytfliahkcfnpjcaj
