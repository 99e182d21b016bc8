/- What is read of a pruned store; the readings as functions. -/
import Derived.Test.YtifdfelpbonckaaStRows
import Derived.Test.YtifdfelpbonckaaPruneA
import Derived.Test.YtifdfelpbonckaaLast2
import Derived.Test.YtifdfelpbonckaaLast
namespace Go.Proofs.Ytifdfelpbonckaa
open Go.ChangeShapes Go.WideShapes Go.ChangeAt Go.RowKit Go.Sort Go.Deep
set_option linter.unusedVariables false
set_option maxRecDepth 100000
attribute [local go_sem ↓] Go.wp_at_zero Go.wp_at_succ

theorem RAns.one' {l : List Ch} {t r h : Int} {p q : Int × Int} (hp : RAns l t r h p) (hq : RAns l t r h q) : p = q := by
  rcases hp with ⟨h1, rfl⟩ | ⟨h1, x, hx, rfl⟩ <;> rcases hq with ⟨g1, rfl⟩ | ⟨g1, y, hy, rfl⟩
  · rfl
  · exact absurd g1 h1
  · exact absurd h1 g1
  · rw [hx.one hy]

open Classical in
/-- The one thing of which P speaks. -/
noncomputable def oneP {α : Type} (d : α) (P : α → Prop) : α := if hx : ∃ p, P p then Classical.choose hx else d
theorem oneP_is {α : Type} {d : α} {P : α → Prop} (h1 : ∀ p q, P p → P q → p = q) {p : α} (hp : P p) : p = oneP d P := by
  have hx : ∃ p, P p := ⟨p, hp⟩
  unfold oneP
  rw [dif_pos hx]
  exact h1 _ _ hp (Classical.choose_spec hx)
noncomputable def readP (l : List Ch) (t r h : Int) : Int × Int := oneP (0, 0) (RAns l t r h)
theorem readP_is {l : List Ch} {t r h : Int} {p : Int × Int} (hp : RAns l t r h p) : p = readP l t r h := oneP_is (fun _ _ h1 h2 => h1.one' h2) hp
theorem readP_congr {l l' : List Ch} {t r h h' : Int} (H : ∀ p, RAns l t r h p ↔ RAns l' t r h' p) : readP l t r h = readP l' t r h' :=
  congrArg (oneP (0, 0)) (funext fun p => propext (H p))
noncomputable def lastP (l : List Ch) (t r : Int) : Int := oneP 0 (LAns l t r)
theorem lastP_is {l : List Ch} {t r : Int} {p : Int} (hp : LAns l t r p) : p = lastP l t r := oneP_is (fun _ _ h1 h2 => h1.one h2) hp
theorem lastP_congr {l l' : List Ch} {t r : Int} (H : ∀ p, LAns l t r p ↔ LAns l' t r p) : lastP l t r = lastP l' t r :=
  congrArg (oneP 0) (funext fun p => propext (H p))

theorem implReadAt_is (v : Value) (l : List Ch) (t r h : Int) (w : World) {lo hi : Nat} (hl : ChainsAt lo hi w v l) (hw : WfCh l) (wt : wf t) (wr : wf r) (hn : l.length ≤ 1048576) :
    Calls Try.prog 14 #[.agg #[v], .agg #[.int .i64 t, .int .i64 r], .int .i64 h] w fun e w' => e = .returned (.tuple #[.int .i64 (readP l t r h).1, .int .i64 (readP l t r h).2]) ∧ Below w.heap.size w w' :=
  (implReadAt_any v l t r h w hl hw wt wr hn).mono fun e w' ⟨p, h1, h2, h3⟩ => ⟨by rw [h1, readP_is h2], h3⟩
theorem specReadAt_is (v : Value) (l : List Ch) (t r h : Int) (w : World) {lo hi : Nat} (hl : ChainsAt lo hi w v l) :
    Calls Try.prog 20 #[.agg #[v], .agg #[.int .i64 t, .int .i64 r], .int .i64 h] w fun e w' => e = .returned (.tuple #[.int .i64 (readP l t r h).1, .int .i64 (readP l t r h).2]) ∧ Below w.heap.size w w' :=
  (specReadAt_any v l t r h w hl).mono fun e w' ⟨p, h1, h2, h3⟩ => ⟨by rw [h1, readP_is h2], h3⟩
theorem implLastAt_is (v : Value) (l : List Ch) (t r : Int) (w : World) {lo hi : Nat} (hl : ChainsAt lo hi w v l) (hw : WfCh l) (wt : wf t) (wr : wf r) (hn : l.length ≤ 1048576) :
    Calls Try.prog 15 #[.agg #[v], .agg #[.int .i64 t, .int .i64 r]] w fun e w' => e = .returned (.int .i64 (lastP l t r)) ∧ Below w.heap.size w w' :=
  (implLastAt_any v l t r w hl hw wt wr hn).mono fun e w' ⟨p, h1, h2, h3⟩ => ⟨by rw [h1, lastP_is h2], h3⟩
theorem specLastAt_is (v : Value) (l : List Ch) (t r : Int) (w : World) {lo hi : Nat} (hl : ChainsAt lo hi w v l) :
    Calls Try.prog 21 #[.agg #[v], .agg #[.int .i64 t, .int .i64 r]] w fun e w' => e = .returned (.int .i64 (lastP l t r)) ∧ Below w.heap.size w w' :=
  (specLastAt_any v l t r w hl).mono fun e w' ⟨p, h1, h2, h3⟩ => ⟨by rw [h1, lastP_is h2], h3⟩

/-! ### Pruned lists -/

theorem prL_first {v : List Vr} {h : Int} (hd : 0 < un v h - 1) : (vAt v (un v h - 1)).1 ≤ h := (un_is v h).2.1 _ (by omega)
theorem prL_len {v : List Vr} {h : Int} (hv : 1 ≤ v.length) : un v h - 1 < v.length := by have := (un_is v h).1; omega

theorem prL_last {v : List Vr} {h g : Int} {x : Vr} (hg : h ≤ g) : IsLast (prL v h) g (prL v h).length x ↔ IsLast v g v.length x := by
  have hlen := prL_length v h
  constructor
  · rintro (⟨rfl, h1⟩ | ⟨i, h1, rfl, h3, h4⟩)
    · by_cases hv : v.length = 0
      · exact .inl ⟨rfl, fun j hj => by omega⟩
      · have hd := prL_len (v := v) (h := h) (by omega)
        by_cases e : un v h - 1 = 0
        · refine .inl ⟨rfl, fun j hj => ?_⟩
          have := h1 j (by omega)
          rw [prL_at, e, Nat.zero_add] at this
          exact this
        · have := h1 0 (by omega)
          rw [prL_at, Nat.add_zero] at this
          have h2 := prL_first (v := v) (h := h) (by omega)
          omega
    · refine .inr ⟨un v h - 1 + i, by omega, prL_at _ _ _, by rw [← prL_at]; exact h3, fun j hj hj2 => ?_⟩
      have := h4 (j - (un v h - 1)) (by omega) (by omega)
      rw [prL_at, show un v h - 1 + (j - (un v h - 1)) = j by omega] at this
      exact this
  · rintro (⟨rfl, h1⟩ | ⟨i, h1, rfl, h3, h4⟩)
    · exact .inl ⟨rfl, fun j hj => by rw [prL_at]; exact h1 _ (by omega)⟩
    · have hi : un v h - 1 ≤ i := Nat.le_of_not_lt fun hlt => by
        have h5 := h4 (un v h - 1) hlt (prL_len (by omega))
        have h6 := prL_first (v := v) (h := h) (by omega)
        omega
      refine .inr ⟨i - (un v h - 1), by omega, by rw [prL_at, show un v h - 1 + (i - (un v h - 1)) = i by omega], by rw [prL_at, show un v h - 1 + (i - (un v h - 1)) = i by omega]; exact h3, fun j hj hj2 => by rw [prL_at]; exact h4 _ (by omega) (by omega)⟩

theorem km_prune {l : List Ch} {h : Int} {i : Nat} (hi : i < l.length) (t r : Int) : km (prune l h) i t r ↔ km l i t r := by
  unfold km
  rw [prune_at l h hi]

theorem storeOk_prune {l : List Ch} {h : Int} (hs : storeOk l) : storeOk (prune l h) := by
  refine ⟨by rw [prune_length]; exact hs.1, fun i hi => ?_⟩
  rw [prune_length] at hi
  obtain ⟨h1, h2, h3, h4, h5⟩ := hs.2 i hi
  unfold chainOk
  rw [prune_at l h hi]
  refine ⟨h1, fun hp => ?_, ?_, ?_, fun k hk => ?_⟩
  · rw [prune_at l h (show i - 1 < l.length by omega)]
    exact h2 hp
  · rw [prL_length]; have := prL_len (v := (cAt l i).l) (h := h) h3; omega
  · rw [prL_length]; omega
  · rw [prL_length] at hk
    have := h5 (un (cAt l i).l h - 1 + k) (by omega)
    unfold verOk at this ⊢
    rw [prL_at, prL_at]
    refine ⟨this.1, this.2.1, fun hp => ?_⟩
    have h6 := this.2.2 (by omega)
    rwa [show un (cAt l i).l h - 1 + k - 1 = un (cAt l i).l h - 1 + (k - 1) by omega] at h6

theorem read_prune {l : List Ch} {h g t r : Int} {x : Vr} (hg : h ≤ g) : IsRead (prune l h) t r g x ↔ IsRead l t r g x := by
  unfold IsRead
  rw [prune_length]
  refine or_congr (and_congr Iff.rfl (forall_congr' fun i => ⟨fun H hi => by rw [← km_prune (h := h) hi]; exact H hi, fun H hi => by rw [km_prune hi]; exact H hi⟩)) (exists_congr fun n => ⟨?_, ?_⟩)
  · rintro ⟨h1, h2, h3, h4⟩
    rw [prune_at l h h1] at h4
    exact ⟨h1, (km_prune h1 t r).1 h2, fun i hi => by rw [← km_prune (h := h) (show i < l.length by omega)]; exact h3 i hi, (prL_last hg).1 h4⟩
  · rintro ⟨h1, h2, h3, h4⟩
    refine ⟨h1, (km_prune h1 t r).2 h2, fun i hi => by rw [km_prune (show i < l.length by omega)]; exact h3 i hi, ?_⟩
    rw [prune_at l h h1]
    exact (prL_last hg).2 h4

theorem readP_prune {l : List Ch} {h g t r : Int} (hs : storeOk l) (hg : h ≤ g) : readP (prune l h) t r g = readP l t r g := readP_congr fun p => by
  have e : storeOk (prune l h) ↔ storeOk l := ⟨fun _ => hs, fun _ => storeOk_prune hs⟩
  unfold RAns
  rw [e]
  simp only [read_prune hg]

theorem lastAt_prune {l : List Ch} {h t r : Int} {x : Int} (hs : storeOk l) : IsLastAt (prune l h) t r x ↔ IsLastAt l t r x := by
  unfold IsLastAt
  rw [prune_length]
  refine or_congr (and_congr Iff.rfl (forall_congr' fun i => ⟨fun H hi => by rw [← km_prune (h := h) hi]; exact H hi, fun H hi => by rw [km_prune hi]; exact H hi⟩)) (exists_congr fun n => ?_)
  have key : ∀ (h1 : n < l.length), (vAt (cAt (prune l h) n).l ((cAt (prune l h) n).l.length - 1)).1 = (vAt (cAt l n).l ((cAt l n).l.length - 1)).1 := fun h1 => by
    rw [prune_at l h h1]
    show (vAt (prL (cAt l n).l h) ((prL (cAt l n).l h).length - 1)).1 = _
    have h3 := (hs.2 n h1).2.2.1
    have := prL_len (v := (cAt l n).l) (h := h) h3
    rw [prL_at, prL_length, show un (cAt l n).l h - 1 + ((cAt l n).l.length - (un (cAt l n).l h - 1) - 1) = (cAt l n).l.length - 1 by omega]
  constructor
  · rintro ⟨h1, h2, h3, h4⟩
    rw [key h1] at h4
    exact ⟨h1, (km_prune h1 t r).1 h2, fun i hi => by rw [← km_prune (h := h) (show i < l.length by omega)]; exact h3 i hi, h4⟩
  · rintro ⟨h1, h2, h3, h4⟩
    rw [← key h1] at h4
    exact ⟨h1, (km_prune h1 t r).2 h2, fun i hi => by rw [km_prune (show i < l.length by omega)]; exact h3 i hi, h4⟩

theorem lastP_prune {l : List Ch} {h t r : Int} (hs : storeOk l) : lastP (prune l h) t r = lastP l t r := lastP_congr fun p => by
  have e : storeOk (prune l h) ↔ storeOk l := ⟨fun _ => hs, fun _ => storeOk_prune hs⟩
  unfold LAns
  rw [e]
  simp only [lastAt_prune hs]

theorem St.prune {l : List Ch} {h g : Int} (hg : h ≤ g) : ∀ {k : Nat} {rs : List Rw}, k ≤ l.length → St (prune l h) g k rs → St l g k rs
  | 0, rs, _, hst => hst
  | k + 1, rs, hk, ⟨rs0, x, h1, h2, h3⟩ => by
    rw [prune_at l h hk] at h2 h3
    exact ⟨rs0, x, St.prune hg (Nat.le_of_succ_le hk) h1, (prL_last hg).1 h2, h3⟩

theorem SAns.prune {l : List Ch} {h g : Int} {rs rs' : List Rw} (hs : storeOk l) (hg : h ≤ g) (h1 : SAns (prune l h) g rs) (h2 : SAns l g rs') : rs = rs' := by
  rcases h1 with ⟨h1, rfl⟩ | ⟨h1, h3⟩ <;> rcases h2 with ⟨g1, rfl⟩ | ⟨g1, g3⟩
  · rfl
  · exact absurd ⟨storeOk_prune hs, g1.2⟩ h1
  · exact absurd ⟨hs, h1.2⟩ g1
  · rw [prune_length] at h3
    exact (h3.prune hg (Nat.le_refl _)).one g3

theorem wf_prune {l : List Ch} {h : Int} (hw : WfCh l) : WfCh (prune l h) := fun i hi => by
  rw [prune_length] at hi
  rw [prune_at l h hi]
  exact hw i hi
theorem small_prune {l : List Ch} {h : Int} (hn : Small l) : Small (prune l h) := by
  refine ⟨by rw [prune_length]; exact hn.1, fun i hi => ?_⟩
  rw [prune_length] at hi
  rw [prune_at l h hi]
  show (prL _ _).length ≤ _
  rw [prL_length]
  have := hn.2 i hi
  omega
theorem implReadAt_pr (v : Value) (l : List Ch) (t r h g : Int) (w : World) {lo hi : Nat} (hl : ChainsAt lo hi w v (prune l h)) (hs : storeOk l) (hg : h ≤ g) (hw : WfCh l) (wt : wf t) (wr : wf r) (hn : l.length ≤ 1048576) :
    Calls Try.prog 14 #[.agg #[v], .agg #[.int .i64 t, .int .i64 r], .int .i64 g] w fun e w' => e = .returned (.tuple #[.int .i64 (readP l t r g).1, .int .i64 (readP l t r g).2]) ∧ Below w.heap.size w w' := by
  rw [← readP_prune hs hg]
  exact implReadAt_is v _ t r g w hl (wf_prune hw) wt wr (by rw [prune_length]; exact hn)
theorem implLastAt_pr (v : Value) (l : List Ch) (t r h : Int) (w : World) {lo hi : Nat} (hl : ChainsAt lo hi w v (prune l h)) (hs : storeOk l) (hw : WfCh l) (wt : wf t) (wr : wf r) (hn : l.length ≤ 1048576) :
    Calls Try.prog 15 #[.agg #[v], .agg #[.int .i64 t, .int .i64 r]] w fun e w' => e = .returned (.int .i64 (lastP l t r)) ∧ Below w.heap.size w w' := by
  rw [← lastP_prune (h := h) hs]
  exact implLastAt_is v _ t r w hl (wf_prune hw) wt wr (by rw [prune_length]; exact hn)
theorem ownS_chains {lo : Nat} {w : World} {v : Value} {l : List Ch} (h : OwnS lo w v l) (hn : Small l) : ChainsAt lo w.heap.size w v l := by
  rcases h with ⟨rfl, rfl⟩ | ⟨b, Bs, cap, rfl, ho⟩
  · exact ⟨none, 0, rfl, Nat.zero_le _, fun hp => absurd hp (Nat.lt_irrefl _)⟩
  · exact ho.chains hn
theorem ownS_len {lo : Nat} {w : World} {v : Value} {l : List Ch} (h : OwnS lo w v l) : ∃ a c, v = .slice a l.length c := by
  rcases h with ⟨rfl, rfl⟩ | ⟨b, Bs, cap, rfl, ho⟩
  · exact ⟨none, 0, rfl⟩
  · exact ⟨_, _, rfl⟩
end Go.Proofs.Ytifdfelpbonckaa
