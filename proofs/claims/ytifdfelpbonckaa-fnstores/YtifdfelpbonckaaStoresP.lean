/- What is read of a store behind an Install. -/
import Derived.Test.YtifdfelpbonckaaPruneA
import Derived.Test.YtifdfelpbonckaaInstEq
import Derived.Test.YtifdfelpbonckaaLWrites
import Derived.Test.YtifdfelpbonckaaOpenCodeS
namespace Go.Proofs.Ytifdfelpbonckaa
open Go.ChangeShapes Go.WideShapes Go.ChangeAt Go.RowKit Go.Sort Go.Deep
set_option linter.unusedVariables false
open Go.ChangeShapes Go.WideShapes Go.ChangeAt Go.RowKit Go.Sort
set_option maxRecDepth 100000
attribute [local go_sem ↓] Go.wp_at_zero Go.wp_at_succ
open Go.ChangeShapes Go.WideShapes Go.ChangeAt Go.RowKit Go.Sort Go.Deep Go.Joins

theorem asc_one {α : Type} {lt : α → α → Prop} (irr : ∀ {p q : α}, lt p q → lt q p → False) : ∀ {a b : List α}, a.Pairwise lt → b.Pairwise lt → (∀ x, x ∈ a ↔ x ∈ b) → a = b
  | [], [], _, _, _ => rfl
  | [], y :: b, _, _, h => absurd ((h y).2 (List.mem_cons_self ..)) (List.not_mem_nil)
  | x :: a, [], _, _, h => absurd ((h x).1 (List.mem_cons_self ..)) (List.not_mem_nil)
  | x :: a, y :: b, ha, hb, h => by
    obtain ⟨ha1, ha2⟩ := List.pairwise_cons.1 ha
    obtain ⟨hb1, hb2⟩ := List.pairwise_cons.1 hb
    have exy : x = y := by
      rcases List.mem_cons.1 ((h x).1 (List.mem_cons_self ..)) with e | hx
      · exact e
      · rcases List.mem_cons.1 ((h y).2 (List.mem_cons_self ..)) with e | hy
        · exact e.symm
        · exact (irr (hb1 x hx) (ha1 y hy)).elim
    subst exy
    have hm : ∀ z, z ∈ a ↔ z ∈ b := fun z => by
      constructor
      · intro hz
        rcases List.mem_cons.1 ((h z).1 (List.mem_cons_of_mem _ hz)) with e | h'
        · subst e; exact (irr (ha1 z hz) (ha1 z hz)).elim
        · exact h'
      · intro hz
        rcases List.mem_cons.1 ((h z).2 (List.mem_cons_of_mem _ hz)) with e | h'
        · subst e; exact (irr (hb1 z hz) (hb1 z hz)).elim
        · exact h'
    rw [asc_one irr ha2 hb2 hm]

theorem rows_up {l : List Rw} (h : keysUp l) : ∀ (i n : Nat), i + n + 1 < l.length → klB (rAt l i).t (rAt l i).r (rAt l (i + n + 1)).t (rAt l (i + n + 1)).r = true
  | i, 0, hi => by have := (h (i + 1) hi).2 (by omega); simpa using this
  | i, n + 1, hi => klB_trans (rows_up h i n (by omega)) (by have := (h (i + (n + 1) + 1) hi).2 (by omega); simpa [Nat.add_assoc] using this)
theorem rows_one {l : List Rw} (h : keysUp l) {i j : Nat} (hi : i < l.length) (hj : j < l.length) (h1 : (rAt l i).t = (rAt l j).t) (h2 : (rAt l i).r = (rAt l j).r) : i = j := by
  rcases Nat.lt_trichotomy i j with e | e | e
  · have := rows_up h i (j - i - 1) (by omega)
    rw [show i + (j - i - 1) + 1 = j by omega, h1, h2] at this
    exact (klB_irrefl this).elim
  · exact e
  · have := rows_up h j (i - j - 1) (by omega)
    rw [show j + (i - j - 1) + 1 = i by omega, h1, h2] at this
    exact (klB_irrefl this).elim
theorem rows_pw {l : List Rw} (h : keysUp l) : l.Pairwise (fun a b => kltR a b = true) := List.pairwise_iff_getElem.2 fun i j hi hj hij => by
  have := rows_up h i (j - i - 1) (by omega)
  rw [show i + (j - i - 1) + 1 = j by omega] at this
  simpa [rAt, hi, hj, kltR] using this
theorem rows_mem {l : List Rw} (h : rowsOk' l) (c : Rw) : c ∈ l ↔ c.v ≠ 0 ∧ rowOfF c.t c.r l = c.v := by
  constructor
  · intro hm
    obtain ⟨i, hi, rfl⟩ := mem_rAt hm
    exact ⟨h.2 i hi, rowOfF_hit hi ⟨rfl, rfl⟩ fun j hj he => by have := rows_one h.1 (show j < l.length by omega) hi he.1 he.2; omega⟩
  · rintro ⟨h1, h2⟩
    by_cases hx : ∃ i, i < l.length ∧ (rAt l i).t = c.t ∧ (rAt l i).r = c.r
    · obtain ⟨i, hi, e1, e2⟩ := hx
      have := rowOfF_hit (t := c.t) (r := c.r) hi ⟨e1, e2⟩ fun j hj he => by have := rows_one h.1 (show j < l.length by omega) hi (he.1.trans e1.symm) (he.2.trans e2.symm); omega
      rw [this] at h2
      have e : c = rAt l i := by
        obtain ⟨t, r, v⟩ := c
        cases hc : rAt l i
        rw [hc] at e1 e2 h2
        simp_all
      rw [e]
      exact rAt_mem hi
    · have := rowOfF_miss (t := c.t) (r := c.r) (l := l) fun i hi he => hx ⟨i, hi, he.1, he.2⟩
      rw [this] at h2
      exact absurd h2.symm h1
theorem rows_ext {a b : List Rw} (ha : rowsOk' a) (hb : rowsOk' b) (h : ∀ t r, rowOfF t r a = rowOfF t r b) : a = b :=
  asc_one (lt := fun a b => kltR a b = true) (fun {p q} h1 h2 => klB_irrefl (klB_trans h1 h2)) (rows_pw ha.1) (rows_pw hb.1) fun c => by rw [rows_mem ha, rows_mem hb, h]

theorem isLast_ex (l : List Vr) (h : Int) : ∀ q, ∃ x, IsLast l h q x
  | 0 => ⟨(0, 0), .inl ⟨rfl, fun j hj => absurd hj (Nat.not_lt_zero _)⟩⟩
  | q + 1 => by
    obtain ⟨x, hx⟩ := isLast_ex l h q
    by_cases e : (vAt l q).1 ≤ h
    · exact ⟨_, IsLast.step_yes e⟩
    · exact ⟨x, hx.step_no (by omega)⟩
theorem isRead_ex {l : List Ch} (hs : storeOk l) (t r h : Int) : ∃ x, IsRead l t r h x := by
  by_cases hx : ∃ i, i < l.length ∧ km l i t r
  · obtain ⟨i, hi, hk⟩ := hx
    obtain ⟨x, hx⟩ := isLast_ex (cAt l i).l h (cAt l i).l.length
    exact ⟨x, .inr ⟨i, hi, hk, fun j hj hk' => by have := keys_one hs (show j < l.length by omega) hi hk' hk; omega, hx⟩⟩
  · exact ⟨(0, 0), .inl ⟨rfl, fun i hi hk => hx ⟨i, hi, hk⟩⟩⟩

theorem isLast_app {l : List Vr} {g h v : Int} {x : Vr} (hg : g < h) (hx : IsLast (l ++ [(h, v)]) g (l ++ [(h, v)]).length x) : IsLast l g l.length x := by
  have hlen : (l ++ [(h, v)]).length = l.length + 1 := by simp
  rw [hlen] at hx
  rcases hx with ⟨rfl, h1⟩ | ⟨i, h1, rfl, h3, h4⟩
  · exact .inl ⟨rfl, fun j hj => by have := h1 j (by omega); rwa [vAt_snoc_lt _ _ hj] at this⟩
  · by_cases e : i < l.length
    · rw [vAt_snoc_lt _ _ e] at h3 ⊢
      exact .inr ⟨i, e, rfl, h3, fun j hj hj2 => by have := h4 j hj (by omega); rwa [vAt_snoc_lt _ _ hj2] at this⟩
    · obtain rfl : i = l.length := by omega
      rw [vAt_snoc_eq] at h3
      exact absurd h3 (by show ¬ h ≤ g; omega)

/-- The store behind: its keys, its lists. -/
structure Behind (l : List Ch) (h : Int) (r : List Rw) (out : List Ch) : Prop where
  old : storeOk l
  ok : storeOk out
  hr : 1 ≤ h ∧ h ≤ 1000000
  wf : WfCh out
  keys : ∀ t r', (∃ i, i < out.length ∧ km out i t r') ↔ (∃ i, i < l.length ∧ km l i t r') ∨ (lv r r.length t r').isSome = true
  lists : ∀ i, i < out.length → (cAt out i).l = instL l h r (cAt out i).t (cAt out i).r
  tabs : ∀ i, i < r.length → tabB (rAt r i).t = true

theorem behind {l : List Ch} {h : Int} {r : List Rw} {ks : List (Int × Int)} (hw : WfCh l) (hwr : WfRw r) (ho : InOk l h r) (hk : InstKeys l r ks) : Behind l h r (chainsOf ks (instL l h r)) := by
  have hS := (inst_same (h := h) hw hwr hk).2 ⟨ho.1, ho.2 ks hk⟩
  obtain ⟨⟨hs, hh, h0, hf⟩, hlen⟩ := ho
  have hhr := (hour_iff h).1 hh
  have at_ : ∀ i, i < (chainsOf ks (instL l h r)).length → cAt (chainsOf ks (instL l h r)) i = ⟨(vAt ks i).1, (vAt ks i).2, instL l h r (vAt ks i).1 (vAt ks i).2⟩ := fun i hi => chainsOf_at ks _ (by rwa [chainsOf_length] at hi)
  have mem_ : ∀ i, i < (chainsOf ks (instL l h r)).length → vAt ks i ∈ ks := fun i hi => by rw [chainsOf_length] at hi; simp [vAt, hi]
  refine ⟨hs, hS.2, by omega, fun i hi => by rw [at_ i hi]; exact hk.2.2.1 _ (mem_ i hi), fun t r' => ?_, fun i hi => by rw [at_ i hi], fun i hi => ?_⟩
  · have hm : (∃ i, i < (chainsOf ks (instL l h r)).length ∧ km (chainsOf ks (instL l h r)) i t r') ↔ (t, r') ∈ ks := by
      constructor
      · rintro ⟨i, hi, h1, h2⟩
        rw [at_ i hi] at h1 h2
        have := mem_ i hi
        rw [← h1, ← h2]
        exact this
      · intro hx
        obtain ⟨j, hj, ej⟩ := List.getElem_of_mem hx
        have ev : vAt ks j = (t, r') := by simp [vAt, hj, ej]
        have hj' : j < (chainsOf ks (instL l h r)).length := by rw [chainsOf_length]; exact hj
        exact ⟨j, hj', by rw [km, at_ j hj', ev]; exact ⟨rfl, rfl⟩⟩
    rw [hm]
    constructor
    · intro hx
      exact (hk.2.2.2 t r' (hk.2.2.1 _ hx).1 (hk.2.2.1 _ hx).2).1 hx
    · intro hx
      have hwf : Go.Proofs.Ytifdfelpbonckaa.wf t ∧ Go.Proofs.Ytifdfelpbonckaa.wf r' := by
        rcases hx with ⟨i, hi, h1, h2⟩ | h1
        · rw [← h1, ← h2]; exact hw i hi
        · obtain ⟨v, hv⟩ := Option.isSome_iff_exists.1 h1
          obtain ⟨i, hi, h2, h3⟩ := lv_some hv
          rw [← h2, ← h3]
          exact hwr i hi
      exact (hk.2.2.2 t r' hwf.1 hwf.2).2 hx
  · obtain ⟨v, hv⟩ := lv_row (r := r) hi
    exact (hf _ _ (hwr i hi).1 (hwr i hi).2 v hv).1

theorem Behind.read {l : List Ch} {h g : Int} {r : List Rw} {out : List Ch} (hB : Behind l h r out) (hg : g < h) {t r' : Int} {x : Vr} (hx : IsRead out t r' g x) : IsRead l t r' g x := by
  rcases hx with ⟨rfl, hn⟩ | ⟨n, h1, h2, h3, h4⟩
  · exact .inl ⟨rfl, fun i hi hk => by obtain ⟨j, hj, hj2⟩ := (hB.keys t r').2 (.inl ⟨i, hi, hk⟩); exact hn j hj hj2⟩
  · rw [hB.lists n h1, h2.1, h2.2] at h4
    have hl : IsLast (listAt l t r') g (listAt l t r').length x := by
      unfold instL at h4
      cases hv : lv r r.length t r' with
      | none => rw [hv] at h4; simpa using h4
      | some v => rw [hv] at h4; exact isLast_app hg h4
    by_cases hex : ∃ i, i < l.length ∧ km l i t r'
    · obtain ⟨i, hi, hk⟩ := hex
      rw [listAt_is hB.old hi hk] at hl
      exact .inr ⟨i, hi, hk, fun j hj hk' => by have := keys_one hB.old (show j < l.length by omega) hi hk' hk; omega, hl⟩
    · have hno : ∀ i, i < l.length → ¬ km l i t r' := fun i hi hk => hex ⟨i, hi, hk⟩
      rw [listAt_none hno] at hl
      refine .inl ⟨?_, hno⟩
      rcases hl with ⟨rfl, _⟩ | ⟨i, hi, _⟩
      · rfl
      · exact absurd hi (Nat.not_lt_zero _)

theorem Behind.state {l : List Ch} {h : Int} {r : List Rw} {out : List Ch} (hB : Behind l h r out) {rs rs' : List Rw} (h1 : SAns out (h - 1) rs) (h2 : SAns l (h - 1) rs') : rs = rs' := by
  have hh : hourB (h - 1) = true := (hour_iff _).2 (by have := hB.hr; omega)
  rcases h1 with ⟨h1, _⟩ | ⟨_, h1⟩
  · exact absurd ⟨hB.ok, hh⟩ h1
  · rcases h2 with ⟨h2, _⟩ | ⟨_, h2⟩
    · exact absurd ⟨hB.old, hh⟩ h2
    · refine rows_ext (St.keys hB.ok (Nat.le_refl _) h1).1 (St.keys hB.old (Nat.le_refl _) h2).1 fun t r' => ?_
      obtain ⟨x, hx⟩ := isRead_ex hB.ok t r' (h - 1)
      rw [h1.read hB.ok hx, h2.read hB.old (hB.read (by omega) hx)]

theorem Behind.put {l : List Ch} {h : Int} {r : List Rw} {out : List Ch} (hB : Behind l h r out) {i : Nat} (hi : i < r.length) {y : Int} (hy : lv r r.length (rAt r i).t (rAt r i).r = some y) :
    readP out (rAt r i).t (rAt r i).r h = (y, h) ∧ lastP out (rAt r i).t (rAt r i).r = h := by
  obtain ⟨n, hn, hk⟩ := (hB.keys _ _).2 (.inr (by rw [hy]; rfl))
  have hl := hB.lists n hn
  rw [hk.1, hk.2] at hl
  have hno : ∀ j, j < n → ¬ km out j (rAt r i).t (rAt r i).r := fun j hj hk' => by have := keys_one hB.ok (show j < out.length by omega) hn hk' hk; omega
  have hl' : (cAt out n).l = listAt l (rAt r i).t (rAt r i).r ++ [(h, y)] := by rw [hl, instL, hy]
  have hlen : (cAt out n).l.length = (listAt l (rAt r i).t (rAt r i).r).length + 1 := by rw [hl']; simp
  have hv : vAt (cAt out n).l (listAt l (rAt r i).t (rAt r i).r).length = (h, y) := by rw [hl', vAt_snoc_eq]
  have hh : hourB h = true := (hour_iff _).2 (by have := hB.hr; omega)
  refine ⟨(readP_is (p := (y, h)) (.inr ⟨⟨hB.ok, hh, hB.tabs i hi⟩, (h, y), .inr ⟨n, hn, hk, hno, ?_⟩, rfl⟩)).symm, (lastP_is (p := h) (.inr ⟨⟨hB.ok, hB.tabs i hi⟩, .inr ⟨n, hn, hk, hno, ?_⟩⟩)).symm⟩
  · rw [hlen, ← hv]
    exact IsLast.step_yes (by rw [hv]; exact Int.le_refl _)
  · rw [hlen, Nat.add_sub_cancel, hv]

/-- While the law looks on: both stores stand in their variables. -/
def TS (W : World) (bs bx : Nat) (sv xv : Value) (y : World) : Prop := Below W.heap.size W y ∧ y.cell? ⟨bs, 0, none⟩ = some sv ∧ y.cell? ⟨bx, 0, none⟩ = some xv
theorem TS.kept {W : World} {bs bx : Nat} {sv xv : Value} {y z : World} (h : TS W bs bx sv xv y) (hb : Below y.heap.size y z) : TS W bs bx sv xv z := ⟨h.1.trans (hb.mono h.1.size), cell_stays hb h.2.1, cell_stays hb h.2.2⟩

theorem lv_here (l : List Rw) (k : Nat) : lv l (k + 1) (rAt l k).t (rAt l k).r = some (rAt l k).v := by simp [lv]

theorem implReadAt_put (v : Value) (l : List Ch) (t r h y : Int) (w : World) {lo hi : Nat} (hl : ChainsAt lo hi w v l) (hw : WfCh l) (wt : wf t) (wr : wf r) (hn : l.length ≤ 1048576) (he : readP l t r h = (y, h)) :
    Calls Try.prog 14 #[.agg #[v], .agg #[.int .i64 t, .int .i64 r], .int .i64 h] w fun e w' => e = .returned (.tuple #[.int .i64 y, .int .i64 h]) ∧ Below w.heap.size w w' := by
  have := implReadAt_is v l t r h w hl hw wt wr hn
  rw [he] at this
  exact this
theorem implLastAt_put (v : Value) (l : List Ch) (t r h : Int) (w : World) {lo hi : Nat} (hl : ChainsAt lo hi w v l) (hw : WfCh l) (wt : wf t) (wr : wf r) (hn : l.length ≤ 1048576) (he : lastP l t r = h) :
    Calls Try.prog 15 #[.agg #[v], .agg #[.int .i64 t, .int .i64 r]] w fun e w' => e = .returned (.int .i64 h) ∧ Below w.heap.size w w' := by
  have := implLastAt_is v l t r w hl hw wt wr hn
  rw [he] at this
  exact this

set_option maxHeartbeats 8000000 in
theorem fnStores_any (a : Option Addr) (n cap : Nat) (w : World) (hc : BytesIn w a n) :
    Calls Try.prog 3 #[.slice a n cap] w fun e w' => e = .returned (.bool true) ∧ Below w.heap.size w w' := by
  go_enter Try.func3, Try.ntmps3
  go_wp2_with fail
  refine (drawInstall_any a n cap _ hc).mono ?_
  rintro e w1 ⟨⟨v, l, h, u, rs, rfl, hD, hR, hrn, hwr⟩, b1⟩
  obtain ⟨hC, hn, hvn, hwf, hk⟩ := hD
  obtain ⟨av, cv, rfl⟩ : ∃ av cv, v = .slice av l.length cv := by obtain ⟨av, cv, h1, _⟩ := hC; exact ⟨av, cv, h1⟩
  obtain ⟨au, cu, rfl⟩ : ∃ au cu, u = .slice au rs.length cu := by obtain ⟨av, cv, h1, _⟩ := hR; exact ⟨av, cv, h1⟩
  have hA := below_alloc w1 (Obj.cells #[.slice av l.length cv] 25)
  have b2 := b1.trans (hA.mono b1.size)
  have p0 : (w1.alloc (Obj.cells #[.slice av l.length cv] 25)).cell? ⟨w1.heap.size, 0, none⟩ = some (.slice av l.length cv) := by simp [go_sem]
  replace hC := hC.stays hA
  replace hR := hR.stays hA
  have HW : Hid (WfCh l ∧ Small l ∧ WfRw rs) := ⟨hwf, ⟨by omega, fun i hi => by have := hvn i hi; omega⟩, hwr⟩
  clear hwf hvn hwr hk hc
  go_wp2_with fail
  refine (implInstall_own _ l h _ rs _ hC hR HW.out.1 HW.out.2.2 HW.out.2.1 (by omega)).mono ?_
  rintro e w3 ⟨hI, hb3⟩
  obtain ⟨ax, nx, cx, out, ok, rfl, hO, hIn⟩ := hI.inA
  have b3 := b2.trans (hb3.mono b2.size)
  replace p0 := cell_stays hb3 p0
  replace hC := hC.stays hb3
  replace hR := hR.stays hb3
  obtain ⟨ax', cx', e⟩ := ownS_len hO
  injection e with e1 e2 e3
  subst e2
  clear e1 e3 ax' cx' hI hb3 b2 hA b1
  generalize w1.heap.size = bs at *
  have hX := ownS_chains hO hIn.small
  clear hO
  have hA := below_alloc w3 (Obj.cells #[.slice ax out.length cx] 25)
  have b4 := b3.trans (hA.mono b3.size)
  have x0 : (w3.alloc (Obj.cells #[.slice ax out.length cx] 25)).cell? ⟨w3.heap.size, 0, none⟩ = some (.slice ax out.length cx) := by simp [go_sem]
  replace p0 := cell_stays hA p0
  replace hC := hC.stays hA
  replace hR := hR.stays hA
  replace hX := hX.stays hA
  clear hA b3
  go_wp2_with fail
  generalize w3.alloc (Obj.cells #[.slice ax out.length cx] 25) = W4 at *
  generalize w3.heap.size = bx at *
  refine (specInstall_own _ l h _ rs _ hC hR HW.out.2.1 (by omega)).mono ?_
  rintro e w5 ⟨hI, hb5⟩
  obtain ⟨ay, ny, cy, out', ok', rfl, hO', hIn'⟩ := hI.inA HW.out.1 HW.out.2.2
  obtain ⟨rfl, rfl⟩ := hIn.one hIn'
  have b5 := b4.trans (hb5.mono b4.size)
  replace p0 := cell_stays hb5 p0
  replace x0 := cell_stays hb5 x0
  replace hC := hC.stays hb5
  replace hR := hR.stays hb5
  replace hX := hX.stays hb5
  clear hI hO' hIn' hb5 b4
  have hA := below_alloc w5 (Obj.cells #[.slice ay ny cy] 25)
  have b6 := b5.trans (hA.mono b5.size)
  replace p0 := cell_stays hA p0
  replace x0 := cell_stays hA x0
  replace hC := hC.stays hA
  replace hR := hR.stays hA
  replace hX := hX.stays hA
  clear hA b5
  rcases hIn with ⟨_, rfl, rfl⟩ | ⟨hok, rfl, ks, hks, hout⟩
  · clear hC hR hX
    go_wp2_with (go_at_call 9; refine (shelves_true _).mono ?_; rintro e w6 ⟨rfl, hb6⟩)
    go_ret
    exact ⟨rfl, b6.trans (hb6.mono b6.size)⟩
  have hB : Behind l h rs out := hout ▸ behind HW.out.1 HW.out.2.2 hok hks
  have HB : Hid (Behind l h rs out) := hB
  have hhr := hB.hr
  have hw1 : IntKind.i64.wrap (h - 1) = h - 1 := by rw [IntKind.wrap_i64]; omega
  have hon : out.length ≤ 200 := hB.ok.1
  clear hB hout hks hok ks
  go_wp2_with fail
  generalize w5.alloc (Obj.cells #[.slice ay ny cy] 25) = W6 at *
  have hP : TS W6 bs bx (.slice av l.length cv) (.slice ax out.length cx) W6 := ⟨Below.refl _ _, p0, x0⟩
  go_region_held3 (fun y => Below W6.heap.size W6 y ∧ y.cell? ⟨bs, 0, none⟩ = some (.slice av l.length cv) ∧ y.cell? ⟨bx, 0, none⟩ = some (.slice ax out.length cx))
    (first | assumption | exact S1 | exact S2 | exact S3 | exact S4 | exact hP.kept (Below.refl _ _).drew)
    (first | (go_at_call 10; refine (implStoreOk_any _ out _ (hX.stays (Below.refl _ _).drew)).mono ?_; rintro e wA ⟨⟨qA, rfl, hqA⟩, hbA⟩; obtain rfl := hqA.2 HB.out.ok; clear hqA; have S1 : TS W6 bs bx (.slice av l.length cv) (.slice ax out.length cx) wA := (hP.kept (Below.refl _ _).drew).kept hbA) | (go_at_call 12; refine (implStateAt_any _ out (h - 1) _ (hX.stays S1.1)).mono ?_; rintro e wI ⟨rsI, vI, rfl, haI, hoI, hbI⟩; have S2 : TS W6 bs bx (.slice av l.length cv) (.slice ax out.length cx) wI := S1.kept hbI; have hRI := hoI.rows (by have := haI.len; omega)) | (go_at_call 13; refine (specStateAt_any _ l (h - 1) _ (hC.stays S2.1)).mono ?_; rintro e wS ⟨rsS, vS, rfl, haS, hoS, hbS⟩; have S3 : TS W6 bs bx (.slice av l.length cv) (.slice ax out.length cx) wS := S2.kept hbS; obtain rfl := HB.out.state haI haS; have hRS := hoS.rows (by have := haS.len; omega)) | (go_at_call 11; refine (sameRows_same _ _ _ _ (hRI.stays hbS) hRS).mono ?_; rintro e wE ⟨rfl, hbE⟩; have S4 : TS W6 bs bx (.slice av l.length cv) (.slice ax out.length cx) wE := S3.kept hbE))
  have b7 := b6.trans (S4.1.mono b6.size)
  have x7 := S4.2.2
  have hX7 := hX.stays S4.1
  have hR7 := hR.stays S4.1
  clear hP S1 S2 S3 hRI hRS hbI hbS hbA haI haS hoI hoS p0 x0 hC hR hX b6 hbE
  have HR : Hid (WfRw rs) := HW.out.2.2
  clear HW S4
  go_wp2_with fail
  generalize wE = w7 at *
  go_loopw [10] (fun i wr => ∃ k : Nat, k ≤ rs.length ∧ i = .int .i64 k ∧ Below w7.heap.size w7 wr) (fun i _ => rs.length - (intOf i).toNat)
  case atStart => exact ⟨0, Nat.zero_le _, rfl, Below.refl _ _⟩
  case round =>
    rename World => wo
    obtain ⟨k, hk, rfl, hb⟩ := hrel
    have x0w := cell_stays hb x7
    have hXw := hX7.stays hb
    have hRw := hR7.stays hb
    clear hX7 hR7 x7
    by_cases hlt : k < rs.length
    · obtain ⟨b, off, rfl, hcc⟩ : ∃ b off, au = some ⟨b, off, none⟩ ∧ ∀ i, i < rs.length → wo.cell? ⟨b, off + i * 3, none⟩ = some (.int .i64 (rAt rs i).t) ∧ wo.cell? ⟨b, off + i * 3 + 1, none⟩ = some (.int .i64 (rAt rs i).r) ∧ wo.cell? ⟨b, off + i * 3 + 2, none⟩ = some (.int .i64 (rAt rs i).v) := by
        obtain ⟨_, _, e, _, h3⟩ := hRw
        cases e
        obtain ⟨b, off, rfl, _, _, hcc⟩ := h3 (by omega)
        exact ⟨b, off, rfl, hcc⟩
      have i0 : (0 : Int) ≤ (k : Int) := by omega
      have i1 : (k : Int) < (rs.length : Int) := by omega
      obtain ⟨c0, c1, c2⟩ := hcc k hlt
      have HC : Hid (∀ i, i < rs.length → wo.cell? ⟨b, off + i * 3, none⟩ = some (.int .i64 (rAt rs i).t) ∧ wo.cell? ⟨b, off + i * 3 + 1, none⟩ = some (.int .i64 (rAt rs i).r) ∧ wo.cell? ⟨b, off + i * 3 + 2, none⟩ = some (.int .i64 (rAt rs i).v)) := hcc
      clear hcc hRw
      go_wp2_with fail
      have hkeq := key_eql
      generalize wo = wa at *
      go_loopw [11, 12] (fun v i wr => ∃ (j : Nat) (y : Int), k + 1 ≤ j ∧ j ≤ rs.length ∧ v = .int .i64 y ∧ i = .int .i64 j ∧ Hid (lv rs j (rAt rs k).t (rAt rs k).r = some y) ∧ Below wa.heap.size wa wr) (fun _ i _ => rs.length - (intOf i).toNat)
      case atStart => exact ⟨k + 1, _, Nat.le_refl _, hlt, rfl, by go_num, lv_here rs k, Below.refl _ _⟩
      case round =>
        rename World => wi
        obtain ⟨j, y, hkj, hj, rfl, rfl, hy, hbi⟩ := hrel
        replace c0 := cell_stays hbi c0
        replace c1 := cell_stays hbi c1
        replace x0w := cell_stays hbi x0w
        replace hXw := hXw.stays hbi
        have hB := hb.trans (hbi.mono hb.size)
        have k0 := cell_regrown c0
        have k1 := cell_regrown c1
        by_cases hjl : j < rs.length
        · obtain ⟨d0, d1, d2⟩ := HC.out j hjl
          replace d0 := cell_stays hbi d0
          replace d1 := cell_stays hbi d1
          replace d2 := cell_stays hbi d2
          have k2 := cell_regrown d0
          have k3 := cell_regrown d1
          have j0 : (0 : Int) ≤ (j : Int) := by omega
          have j1 : (j : Int) < (rs.length : Int) := by omega
          by_cases he : (rAt rs j).t = (rAt rs k).t ∧ (rAt rs j).r = (rAt rs k).r
          · have he' : decide ((rAt rs j).t = (rAt rs k).t ∧ (rAt rs j).r = (rAt rs k).r) = true := by simpa using he
            have hy2 : Hid (lv rs (j + 1) (rAt rs k).t (rAt rs k).r = some (rAt rs j).v) := by show lv rs (j + 1) _ _ = _; rw [lv, if_pos ⟨he.1.symm, he.2.symm⟩]
            clear he hy
            go_wp2_with fail
            refine wp_region_quiet_below (by kernel_rfl) (by kernel_rfl) ?_
            repeat (go_big_quiet_step (fail))
            refine wpQuiet_nil ?_
            intro w8 hw8
            obtain ⟨⟨d8, o8⟩, hw8'⟩ := hw8
            have hb8 : Below _ _ w8 := hw8' ▸ below_regrown _ d8 o8
            clear hw8'
            have hB8 := hbi.trans (hb8.mono hbi.size)
            have e2 := cell_stays hb8 d2
            go_wp2
            go_roundw
            case rel => exact ⟨j + 1, _, by omega, by omega, rfl, by go_num, hy2, hB8⟩
            case measure => simp [intOf]; omega
          · have he' : decide ((rAt rs j).t = (rAt rs k).t ∧ (rAt rs j).r = (rAt rs k).r) = false := by simpa using he
            have hy2 : Hid (lv rs (j + 1) (rAt rs k).t (rAt rs k).r = some y) := by show lv rs (j + 1) _ _ = _; rw [lv, if_neg (fun h => he ⟨h.1.symm, h.2.symm⟩)]; exact hy.out
            clear he hy
            go_wp2_with fail
            refine wp_region_quiet_below (by kernel_rfl) (by kernel_rfl) ?_
            repeat (go_big_quiet_step (fail))
            refine wpQuiet_nil ?_
            intro w8 hw8
            obtain ⟨⟨d8, o8⟩, hw8'⟩ := hw8
            have hb8 : Below _ _ w8 := hw8' ▸ below_regrown _ d8 o8
            clear hw8'
            have hB8 := hbi.trans (hb8.mono hbi.size)
            go_wp2
            go_roundw
            case rel => exact ⟨j + 1, _, by omega, by omega, rfl, by go_num, hy2, hB8⟩
            case measure => simp [intOf]; omega
        · have hfin : Hid (readP out (rAt rs k).t (rAt rs k).r h = (y, h) ∧ lastP out (rAt rs k).t (rAt rs k).r = h) := by
            have e : j = rs.length := by omega
            subst e
            exact HB.out.put hlt hy.out
          have HK : Hid (wf (rAt rs k).t ∧ wf (rAt rs k).r) := HR.out k hlt
          have HO : Hid (WfCh out) := HB.out.wf
          have k4 := cell_regrown x0w
          clear hkeq hy
          go_wp2_with fail
          refine wp_region_quiet_below (by kernel_rfl) (by kernel_rfl) ?_
          repeat (go_big_quiet_step ((go_at_call 14; exact Calls.regrown_of (implReadAt_put _ out _ _ h y _ (hXw.stays (below_regrown _ _ _)) HO.out HK.out.1 HK.out.2 (by omega) hfin.out.1))))
          refine wpQuiet_nil ?_
          intro w8 hw8
          obtain ⟨⟨d8, o8⟩, hw8'⟩ := hw8
          have hb8 : Below _ _ w8 := hw8' ▸ below_regrown _ d8 o8
          clear hw8'
          replace hB := hB.trans (hb8.mono hB.size)
          replace k0 := cell_regrown (cell_stays hb8 c0)
          replace k1 := cell_regrown (cell_stays hb8 c1)
          replace k4 := cell_regrown (cell_stays hb8 x0w)
          replace hXw := hXw.stays hb8
          go_wp2_with fail
          refine wp_region_quiet_below (by kernel_rfl) (by kernel_rfl) ?_
          repeat (go_big_quiet_step ((go_at_call 15; exact Calls.regrown_of (implLastAt_put _ out _ _ h _ (hXw.stays (below_regrown _ _ _)) HO.out HK.out.1 HK.out.2 (by omega) hfin.out.2))))
          refine wpQuiet_nil ?_
          intro w9 hw9
          obtain ⟨⟨d9, o9⟩, hw9'⟩ := hw9
          have hb9 : Below _ _ w9 := hw9' ▸ below_regrown _ d9 o9
          clear hw9'
          replace hB := hB.trans (hb9.mono hB.size)
          go_wp2
          go_roundw
          case rel => exact ⟨k + 1, by omega, by go_num, hB⟩
          case measure => simp [intOf]; omega
    · have b8 := b7.trans (hb.mono b7.size)
      have hlt' : ¬ (k : Int) < (rs.length : Int) := by omega
      go_wp2_with (go_at_call 9; refine (shelves_true _).mono ?_; rintro e w9 ⟨rfl, hb9⟩)
      go_ret
      exact ⟨rfl, b8.trans (hb9.mono b8.size)⟩

theorem own : ownKnob Try.prog.godebug = none := by kernel_rfl
theorem laidOut : laidOutB Try.prog = true := by kernel_rfl

set_option maxRecDepth 100000 in
theorem liftedStores (os : Os) (started : os.Started) (H : Type) (enc : TypeId × Value → H) :
    ReturnsInHanded {} Try.checked os 3 .any (Rows.fnStoresSpec.pre6 enc Try.prog Try.f3 Rows.fnStoresRow.domain false) (Rows.fnStoresSpec.post enc Try.prog Try.f3 false true false false) := by
  refine returnsInHanded_of_change (C := Try.checked) own started (by kernel_rfl) Try.func3
    (ChangeSpec.witness6 (enc := enc) (C := Try.checked) false ⟨#[], #[.slice none 0 0], []⟩ 8 (by kernel_rfl) (by kernel_rfl) (by kernel_rfl) (by kernel_rfl)) ?_
  intro W base args ds gs before hval0 hW hcnd _
  have hval : ∀ (j : Nat) t v, Try.f3.params[j]? = some t → args[j]? = some v → Value.okWide Try.prog W .any base t v := hval0
  have hW' := hW
  obtain ⟨p, q, hA0, hV, rfl, hfz, hnd⟩ := hW
  have hA : DataW.TrodAll enc Try.prog W 0 (fun _ => true) true Try.f3.params.toList args.toList ds p := hA0
  rw [Try.params3] at hA hval
  obtain ⟨v0, vs0, d0, ds0, p0, q0, hargs, rfl, rfl, h0, r0⟩ := trodAll_cons hA
  obtain ⟨rfl, rfl, rfl⟩ := trodAll_nil r0
  obtain rfl : args = #[v0] := by cases args; simp_all
  obtain ⟨rfl, rfl⟩ := trodVars_none hV
  have k0 := h0
  have lt0 : ∀ x ∈ p0, x.block < W.heap.size := by obtain ⟨m, hm⟩ := k0; exact DataW.trod_lt m _ _ _ hm
  obtain ⟨a, n, cap, rfl, hl⟩ := open_code (hval 0 22 v0 rfl rfl) h0
  clear hA0 hval0
  refine (fnStores_any a n cap W hl).mono fun e W' ⟨he, bel⟩ => ?_
  subst he
  exact ⟨_, rfl, _, _, _, [], _, [], hW', trodAll_mk1 (shut_bool Try.underlying4 _), trodAll_cons_mk (Below.trod laidOut (by kernel_rfl) (of_decide_eq_true (by kernel_rfl)) k0 bel lt0) trodAll_mk0, rfl, bel.frame _, fun h => by cases h⟩

theorem fnStores_holds : Rows.FnStoresSaid :=
  OpenClaim.holds_of_wide 3 Try.f3 rfl rfl rfl rfl rfl rfl rfl ⟨rfl, rfl, rfl, rfl, rfl⟩ rfl rfl rfl rfl rfl (by kernel_rfl) Try.func3 (by kernel_rfl)
    (of_decide_eq_true (by kernel_rfl)) (by unfold Func.isWrapper; first | (rw [if_pos (by decide +kernel)]; kernel_rfl) | (rw [if_neg (by decide +kernel)]; exact ⟨rfl, rfl⟩))
    (fun os started H enc _ => liftedStores os started H enc)

#print axioms fnStores_holds

end Go.Proofs.Ytifdfelpbonckaa
