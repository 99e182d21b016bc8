/- impl.Prune at any store whose lists have room. -/
import Derived.Test.YtifdfelpbonckaaPrune
import Derived.Test.YtifdfelpbonckaaLBent0
import Derived.Test.YtifdfelpbonckaaStRows
import Derived.Test.YtifdfelpbonckaaLast2
import Derived.Test.YtifdfelpbonckaaLast
namespace Go.Proofs.Ytifdfelpbonckaa
open Go.ChangeShapes Go.WideShapes Go.ChangeAt Go.RowKit Go.Maps Go.Sort
set_option linter.unusedVariables false
set_option maxRecDepth 100000
attribute [local go_sem ↓] Go.wp_at_zero Go.wp_at_succ
open Go.ChangeShapes Go.WideShapes Go.ChangeAt Go.RowKit Go.Sort Go.Deep

/-- impl.Prune at any store whose lists have room for what they hold. -/
theorem chains_caps {lo hi : Nat} {w : World} {a : Option Addr} {cap : Nat} {l : List Ch} (hl : ChainsAt lo hi w (.slice a l.length cap) l) (hk : CapsAt w (.slice a l.length cap) l) (i : Nat) (hi' : i < l.length) :
    ∃ bb off, a = some ⟨bb, off, none⟩ ∧ w.cell? ⟨bb, off + i * 3, none⟩ = some (.int .i64 (cAt l i).t) ∧ w.cell? ⟨bb, off + i * 3 + 1, none⟩ = some (.int .i64 (cAt l i).r) ∧ ∃ a2 c, (cAt l i).l.length ≤ c ∧ w.cell? ⟨bb, off + i * 3 + 1 + 1, none⟩ = some (.slice a2 (cAt l i).l.length c) ∧ VersAt lo hi w (.slice a2 (cAt l i).l.length c) (cAt l i).l := by
  obtain ⟨a', cap', e, _, hc⟩ := hl
  cases e
  obtain ⟨bb, off, rfl, _, _, hcc⟩ := hc (by omega)
  obtain ⟨c0, c1, a2, c2, c3, c4⟩ := hcc i hi'
  obtain ⟨b', off', n', c', a3, m', c3', e', h1, h2⟩ := hk i hi'
  cases e'
  rw [c3] at h1
  cases h1
  exact ⟨_, _, rfl, c0, c1, a2, c2, h2, c3, c4⟩

set_option maxHeartbeats 4000000 in
theorem implPrune_any (a : Option Addr) (cap : Nat) (l : List Ch) (h : Int) (w : World) {lo hi : Nat} (hl : ChainsAt lo hi w (.slice a l.length cap) l) (hk : CapsAt w (.slice a l.length cap) l) (hw : WfCh l) (hn : Small l) :
    Calls Try.prog 17 #[.agg #[.slice a l.length cap], .int .i64 h] w fun e w' => ∃ v' out, e = .returned (.agg #[v']) ∧ PAns l h out ∧ OwnS w.heap.size w' v' out ∧ Below w.heap.size w w' := by
  have HC : Hid (∀ i, i < l.length → _) := chains_caps hl hk
  clear hk
  have hbx : Below w.heap.size w ((w.alloc (Obj.cells #[Value.slice a l.length cap] 25)).alloc (Obj.cells #[Value.slice none 0 0] 25)) := ((Below.refl _ _).alloc (Nat.le_refl _) _).alloc (by simp) _
  go_enter Try.func17, Try.ntmps17
  go_wp2_with fail
  refine (implStoreOk_any _ l _ (hl.stays hbx)).mono ?_
  rintro e w1 ⟨⟨q, rfl, hq⟩, hb1⟩
  have b1 := hbx.trans (hb1.mono hbx.size)
  have p0 : w1.cell? ⟨w.heap.size, 0, none⟩ = some (.slice a l.length cap) := cell_stays hb1 (by simp [go_sem])
  have p1 : w1.cell? ⟨w.heap.size + 1, 0, none⟩ = some (.slice none 0 0) := cell_stays hb1 (by simp [go_sem])
  have q1 : w1.frozen? ⟨w.heap.size + 1, 0, none⟩ = false := by rw [hb1.frozen (by simp)]; simp [go_sem]
  have z1 : w.heap.size + 1 < w1.heap.size := cell_lt p1
  clear hb1 hbx
  by_cases hs : storeOk l
  · obtain rfl := hq.2 hs
    clear hq
    by_cases hh : hourB h = true
    · have h200 := hs.1
      go_wp2_with (first | (go_at_call 31; refine (isHour_any _ _).mono ?_; rintro e w2 ⟨rfl, rfl⟩) | (go_at_call 32; refine (chainsByKey_any _ l _ (hl.stays b1) hw hn.1).mono ?_; rintro e w3 ⟨bm, D, f, rfl, hown, hat, hby, hbm, hb3⟩; have p3 := cell_stays hb3 p0))
      go_loopw [23] (fun i wr => ∃ (k : Nat) (D : DataW Value) (f : Int → Int → Option Value), k ≤ l.length ∧ i = .int .i64 k ∧ Below w2.heap.size w2 wr ∧ wr.ownsMap Try.prog 36 KV bm (l.length + k) D ∧ At D f ∧ PMap lo hi w2 l h k f) (fun i _ => l.length - (intOf i).toNat)
      case atStart => exact ⟨0, D, f, Nat.zero_le _, rfl, hb3, hown, hat, PMap.start h hby⟩
      case round =>
        obtain ⟨k, D', f', hk, rfl, hb, hown', hat', hpm⟩ := hrel
        by_cases hlt : k < l.length
        · obtain ⟨bb, off, rfl, c0, c1, a2, cap2, hcap2, c2, c3⟩ := HC.out k hlt
          have bw := b1.trans (hb.mono b1.size)
          replace c0 := cell_stays bw c0
          replace c1 := cell_stays bw c1
          replace c2 := cell_stays bw c2
          have wk := hw k hlt
          have vk := (hs.2 k hlt).2.2
          have c4 := c3.stays b1
          obtain ⟨b5, o5, rfl⟩ : ∃ b5 o5, a2 = some ⟨b5, o5, none⟩ := by
            obtain ⟨_, _, e, _, h3⟩ := c3
            cases e
            obtain ⟨b5, o5, e, _⟩ := h3 (by have := vk.1; omega)
            exact ⟨b5, o5, e⟩
          clear HC
          have bA := below_alloc wr (Obj.cells #[Value.int IntKind.i64 (cAt l k).t, Value.int IntKind.i64 (cAt l k).r, Value.slice (some ⟨b5, o5, none⟩) (cAt l k).l.length cap2] 49)
          have c5 := (c4.stays hb).stays bA
          go_wp2_with (go_at_call 49; refine (versUntil_any _ _ _ _ c5).mono ?_; rintro e w5 ⟨n5, rfl, hu5, rfl⟩; obtain rfl := hu5.one (un_is _ _))
          have hu := (un_is (cAt l k).l h).1
          have hl1 := vk.1
          have hl2 := vk.2.1
          have em : max (wrap64 ((un (cAt l k).l h : Int) - 1)) 0 = ((un (cAt l k).l h - 1 : Nat) : Int) := by
            unfold wrap64; omega
          rw [em]
          have hcut := c4.cut (h := h) (c' := cap2 - (un (cAt l k).l h - 1)) (by omega)
          obtain ⟨m, hmu⟩ : ∃ m, un (cAt l k).l h - 1 = m := ⟨_, rfl⟩
          rw [hmu] at hcut ⊢
          have i0 : (0 : Int) ≤ (m : Int) := by omega
          have i1 : (m : Int) ≤ ((cAt l k).l.length : Int) := by omega
          have hne : ¬ (cap2 = m) := by omega
          have hbl := hown'.lt
          obtain ⟨w9, hrun9, hown9, hg9⟩ := ((hown'.alloc (Obj.cells #[Value.int IntKind.i64 (cAt l k).t, Value.int IntKind.i64 (cAt l k).r, Value.slice (some ⟨b5, o5, none⟩) (cAt l k).l.length cap2] 49)).drew).update mlaw Try.underlying62 (by unfold maxLen; omega) (key_is wk.1 wk.2) (val := .slice (some ⟨b5, o5 + m * 2, none⟩) ((cAt l k).l.length - m) (cap2 - m)) rfl
          have hS0 : ∀ x, (wr.alloc (Obj.cells #[Value.int IntKind.i64 (cAt l k).t, Value.int IntKind.i64 (cAt l k).r, Value.slice (some ⟨b5, o5, none⟩) (cAt l k).l.length cap2] 49)).grownBy x (some bm) → x.cell? ⟨wr.heap.size, 0, none⟩ = some (.int .i64 (cAt l k).t) ∧ x.cell? ⟨wr.heap.size, 1, none⟩ = some (.int .i64 (cAt l k).r) ∧ x.cell? ⟨wr.heap.size, 2, none⟩ = some (.slice (some ⟨b5, o5, none⟩) (cAt l k).l.length cap2) := fun x hx => by
            have n1 : some wr.heap.size ≠ some bm := by intro e; injection e with e; omega
            refine ⟨?_, ?_, ?_⟩ <;> (rw [hx.cell_far _ (by simp) n1]; simp [go_sem])
          have HS : Hid (∀ x, _ → _) := hS0
          have HP : Hid (PMap lo hi w2 l h (k + 1) _) := hpm.step hlt hcut
          have HU : Hid (un (cAt l k).l h - 1 = m) := hmu
          clear hS0 hmu em hu hown' hpm c5 c4 hcut
          go_region_held3 (fun x => x.cell? ⟨wr.heap.size, 0, none⟩ = some (.int .i64 (cAt l k).t) ∧ x.cell? ⟨wr.heap.size, 1, none⟩ = some (.int .i64 (cAt l k).r) ∧ x.cell? ⟨wr.heap.size, 2, none⟩ = some (.slice (some ⟨b5, o5, none⟩) (cAt l k).l.length cap2))
            (first | exact HS.out _ (gb_below _ (Below.refl _ _).drew) | exact HS.out _ (gb_trans (gb_below _ (Below.refl _ _).drew) hg9))
            (fail)
          have hsz := hb.size
          go_wp2
          go_roundw
          case rel => exact ⟨k + 1, _, _, by omega, by go_num, ((hb.alloc hb.size _).drew).grown hg9 (by simp; omega) (fun j hj => by cases hj; omega), hown9, hat'.put wk.1 wk.2 _, HP.out⟩
          case measure => simp [intOf]; omega
        · obtain rfl : k = l.length := by omega
          have hv : ∀ t r, wf t → wf r → ∀ v, f' t r = some v → VersAt lo hi wr v (prL (listAt l t r) h) ∧ (prL (listAt l t r) h).length ≤ 1048576 := fun t r _ _ v hfv => by
            rcases hpm t r with ⟨h1, _⟩ | ⟨i, h1, h2, v', h4, h5⟩
            · rw [h1] at hfv; cases hfv
            · rw [h4] at hfv
              cases hfv
              rw [if_pos h1] at h5
              rw [listAt_is hs h1 h2]
              exact ⟨h5.stays hb, by rw [prL_length]; have := hn.2 i h1; omega⟩
          have d0 := cell_stays hb p1
          have d1 : wr.frozen? ⟨w.heap.size + 1, 0, none⟩ = false := by rw [hb.frozen z1]; exact q1
          have bw := b1.trans (hb.mono b1.size)
          have HV : Hid (∀ t r, wf t → wf r → ∀ v, f' t r = some v → VersAt lo hi wr v (prL (listAt l t r) h) ∧ (prL (listAt l t r) h).length ≤ 1048576) := hv
          clear hv HC
          go_wp2_with (go_at_call 37; refine (storeOf_own bm _ D' f' (fun t r => prL (listAt l t r) h) _ hown' hat' HV.out (by have := hown'.size_le; omega)).mono ?_; rintro e w6 ⟨v6, ks, rfl, hK, hP, hO6, hb6⟩; have d2 := cell_stays hb6 d0; have d3 : w6.frozen? ⟨w.heap.size + 1, 0, none⟩ = false := (by rw [hb6.frozen (cell_lt d0)]; exact d1); obtain ⟨a6, n6, c6, rfl⟩ := hO6.form)
          have e6 := hpm.done hs hw hK hP
          have hsz := hb.size
          refine bodyPost_ret (v := .agg #[.slice a6 n6 c6]) ?_ rfl ⟨_, prune l h, rfl, .inr ⟨⟨hs, hh⟩, rfl⟩, ?_, ?_⟩
          · simp [results, Try.results17, go_sem, d2]
          · rw [← e6]
            exact (hO6.set (by omega) _).wide (by omega)
          · exact (bw.trans (hb6.mono bw.size)).setCell (by simp) _
    · have hh' : hourB h = false := by simpa using hh
      go_wp2_with (first | (go_at_call 31; refine (isHour_any _ _).mono ?_; rintro e w2 ⟨rfl, rfl⟩))
      refine bodyPost_ret (v := .agg #[.slice none 0 0]) ?_ rfl ⟨_, [], rfl, .inl ⟨fun h => hh h.2, rfl⟩, .inl ⟨rfl, rfl⟩, ?_⟩
      · simp [results, Try.results17, go_sem, p1]
      · exact b1.setCell (by simp) _
  · obtain rfl := says_false hq hs
    clear hq
    go_wp2
    refine bodyPost_ret (v := .agg #[.slice none 0 0]) ?_ rfl ⟨_, [], rfl, .inl ⟨fun h => hs h.1, rfl⟩, .inl ⟨rfl, rfl⟩, ?_⟩
    · simp [results, Try.results17, go_sem, p1]
    · exact b1.setCell (by simp) _

theorem RAns.one' {l : List Ch} {t r h : Int} {p q : Int × Int} (hp : RAns l t r h p) (hq : RAns l t r h q) : p = q := by
  rcases hp with ⟨h1, rfl⟩ | ⟨h1, x, hx, rfl⟩ <;> rcases hq with ⟨g1, rfl⟩ | ⟨g1, y, hy, rfl⟩
  · rfl
  · exact absurd g1 h1
  · exact absurd h1 g1
  · rw [hx.one hy]

open Classical in
/-- The one thing of which P speaks. -/
noncomputable def oneP {α : Type} (d : α) (P : α → Prop) : α := if hx : ∃ p, P p then Classical.choose hx else d
theorem oneP_is {α : Type} {d : α} {P : α → Prop} (h1 : ∀ p q, P p → P q → p = q) {p : α} (hp : P p) : p = oneP d P := by
  have hx : ∃ p, P p := ⟨p, hp⟩
  unfold oneP
  rw [dif_pos hx]
  exact h1 _ _ hp (Classical.choose_spec hx)
noncomputable def readP (l : List Ch) (t r h : Int) : Int × Int := oneP (0, 0) (RAns l t r h)
theorem readP_is {l : List Ch} {t r h : Int} {p : Int × Int} (hp : RAns l t r h p) : p = readP l t r h := oneP_is (fun _ _ h1 h2 => h1.one' h2) hp
theorem readP_congr {l l' : List Ch} {t r h h' : Int} (H : ∀ p, RAns l t r h p ↔ RAns l' t r h' p) : readP l t r h = readP l' t r h' :=
  congrArg (oneP (0, 0)) (funext fun p => propext (H p))
noncomputable def lastP (l : List Ch) (t r : Int) : Int := oneP 0 (LAns l t r)
theorem lastP_is {l : List Ch} {t r : Int} {p : Int} (hp : LAns l t r p) : p = lastP l t r := oneP_is (fun _ _ h1 h2 => h1.one h2) hp
theorem lastP_congr {l l' : List Ch} {t r : Int} (H : ∀ p, LAns l t r p ↔ LAns l' t r p) : lastP l t r = lastP l' t r :=
  congrArg (oneP 0) (funext fun p => propext (H p))

theorem implReadAt_is (v : Value) (l : List Ch) (t r h : Int) (w : World) {lo hi : Nat} (hl : ChainsAt lo hi w v l) (hw : WfCh l) (wt : wf t) (wr : wf r) (hn : l.length ≤ 1048576) :
    Calls Try.prog 14 #[.agg #[v], .agg #[.int .i64 t, .int .i64 r], .int .i64 h] w fun e w' => e = .returned (.tuple #[.int .i64 (readP l t r h).1, .int .i64 (readP l t r h).2]) ∧ Below w.heap.size w w' :=
  (implReadAt_any v l t r h w hl hw wt wr hn).mono fun e w' ⟨p, h1, h2, h3⟩ => ⟨by rw [h1, readP_is h2], h3⟩
theorem specReadAt_is (v : Value) (l : List Ch) (t r h : Int) (w : World) {lo hi : Nat} (hl : ChainsAt lo hi w v l) :
    Calls Try.prog 20 #[.agg #[v], .agg #[.int .i64 t, .int .i64 r], .int .i64 h] w fun e w' => e = .returned (.tuple #[.int .i64 (readP l t r h).1, .int .i64 (readP l t r h).2]) ∧ Below w.heap.size w w' :=
  (specReadAt_any v l t r h w hl).mono fun e w' ⟨p, h1, h2, h3⟩ => ⟨by rw [h1, readP_is h2], h3⟩
theorem implLastAt_is (v : Value) (l : List Ch) (t r : Int) (w : World) {lo hi : Nat} (hl : ChainsAt lo hi w v l) (hw : WfCh l) (wt : wf t) (wr : wf r) (hn : l.length ≤ 1048576) :
    Calls Try.prog 15 #[.agg #[v], .agg #[.int .i64 t, .int .i64 r]] w fun e w' => e = .returned (.int .i64 (lastP l t r)) ∧ Below w.heap.size w w' :=
  (implLastAt_any v l t r w hl hw wt wr hn).mono fun e w' ⟨p, h1, h2, h3⟩ => ⟨by rw [h1, lastP_is h2], h3⟩
theorem specLastAt_is (v : Value) (l : List Ch) (t r : Int) (w : World) {lo hi : Nat} (hl : ChainsAt lo hi w v l) :
    Calls Try.prog 21 #[.agg #[v], .agg #[.int .i64 t, .int .i64 r]] w fun e w' => e = .returned (.int .i64 (lastP l t r)) ∧ Below w.heap.size w w' :=
  (specLastAt_any v l t r w hl).mono fun e w' ⟨p, h1, h2, h3⟩ => ⟨by rw [h1, lastP_is h2], h3⟩

/-! ### Pruned lists -/

theorem prL_first {v : List Vr} {h : Int} (hd : 0 < un v h - 1) : (vAt v (un v h - 1)).1 ≤ h := (un_is v h).2.1 _ (by omega)
theorem prL_len {v : List Vr} {h : Int} (hv : 1 ≤ v.length) : un v h - 1 < v.length := by have := (un_is v h).1; omega

theorem prL_last {v : List Vr} {h g : Int} {x : Vr} (hg : h ≤ g) : IsLast (prL v h) g (prL v h).length x ↔ IsLast v g v.length x := by
  have hlen := prL_length v h
  constructor
  · rintro (⟨rfl, h1⟩ | ⟨i, h1, rfl, h3, h4⟩)
    · by_cases hv : v.length = 0
      · exact .inl ⟨rfl, fun j hj => by omega⟩
      · have hd := prL_len (v := v) (h := h) (by omega)
        by_cases e : un v h - 1 = 0
        · refine .inl ⟨rfl, fun j hj => ?_⟩
          have := h1 j (by omega)
          rw [prL_at, e, Nat.zero_add] at this
          exact this
        · have := h1 0 (by omega)
          rw [prL_at, Nat.add_zero] at this
          have h2 := prL_first (v := v) (h := h) (by omega)
          omega
    · refine .inr ⟨un v h - 1 + i, by omega, prL_at _ _ _, by rw [← prL_at]; exact h3, fun j hj hj2 => ?_⟩
      have := h4 (j - (un v h - 1)) (by omega) (by omega)
      rw [prL_at, show un v h - 1 + (j - (un v h - 1)) = j by omega] at this
      exact this
  · rintro (⟨rfl, h1⟩ | ⟨i, h1, rfl, h3, h4⟩)
    · exact .inl ⟨rfl, fun j hj => by rw [prL_at]; exact h1 _ (by omega)⟩
    · have hi : un v h - 1 ≤ i := Nat.le_of_not_lt fun hlt => by
        have h5 := h4 (un v h - 1) hlt (prL_len (by omega))
        have h6 := prL_first (v := v) (h := h) (by omega)
        omega
      refine .inr ⟨i - (un v h - 1), by omega, by rw [prL_at, show un v h - 1 + (i - (un v h - 1)) = i by omega], by rw [prL_at, show un v h - 1 + (i - (un v h - 1)) = i by omega]; exact h3, fun j hj hj2 => by rw [prL_at]; exact h4 _ (by omega) (by omega)⟩

theorem km_prune {l : List Ch} {h : Int} {i : Nat} (hi : i < l.length) (t r : Int) : km (prune l h) i t r ↔ km l i t r := by
  unfold km
  rw [prune_at l h hi]

theorem storeOk_prune {l : List Ch} {h : Int} (hs : storeOk l) : storeOk (prune l h) := by
  refine ⟨by rw [prune_length]; exact hs.1, fun i hi => ?_⟩
  rw [prune_length] at hi
  obtain ⟨h1, h2, h3, h4, h5⟩ := hs.2 i hi
  unfold chainOk
  rw [prune_at l h hi]
  refine ⟨h1, fun hp => ?_, ?_, ?_, fun k hk => ?_⟩
  · rw [prune_at l h (show i - 1 < l.length by omega)]
    exact h2 hp
  · rw [prL_length]; have := prL_len (v := (cAt l i).l) (h := h) h3; omega
  · rw [prL_length]; omega
  · rw [prL_length] at hk
    have := h5 (un (cAt l i).l h - 1 + k) (by omega)
    unfold verOk at this ⊢
    rw [prL_at, prL_at]
    refine ⟨this.1, this.2.1, fun hp => ?_⟩
    have h6 := this.2.2 (by omega)
    rwa [show un (cAt l i).l h - 1 + k - 1 = un (cAt l i).l h - 1 + (k - 1) by omega] at h6

theorem read_prune {l : List Ch} {h g t r : Int} {x : Vr} (hg : h ≤ g) : IsRead (prune l h) t r g x ↔ IsRead l t r g x := by
  unfold IsRead
  rw [prune_length]
  refine or_congr (and_congr Iff.rfl (forall_congr' fun i => ⟨fun H hi => by rw [← km_prune (h := h) hi]; exact H hi, fun H hi => by rw [km_prune hi]; exact H hi⟩)) (exists_congr fun n => ⟨?_, ?_⟩)
  · rintro ⟨h1, h2, h3, h4⟩
    rw [prune_at l h h1] at h4
    exact ⟨h1, (km_prune h1 t r).1 h2, fun i hi => by rw [← km_prune (h := h) (show i < l.length by omega)]; exact h3 i hi, (prL_last hg).1 h4⟩
  · rintro ⟨h1, h2, h3, h4⟩
    refine ⟨h1, (km_prune h1 t r).2 h2, fun i hi => by rw [km_prune (show i < l.length by omega)]; exact h3 i hi, ?_⟩
    rw [prune_at l h h1]
    exact (prL_last hg).2 h4

theorem readP_prune {l : List Ch} {h g t r : Int} (hs : storeOk l) (hg : h ≤ g) : readP (prune l h) t r g = readP l t r g := readP_congr fun p => by
  have e : storeOk (prune l h) ↔ storeOk l := ⟨fun _ => hs, fun _ => storeOk_prune hs⟩
  unfold RAns
  rw [e]
  simp only [read_prune hg]

theorem lastAt_prune {l : List Ch} {h t r : Int} {x : Int} (hs : storeOk l) : IsLastAt (prune l h) t r x ↔ IsLastAt l t r x := by
  unfold IsLastAt
  rw [prune_length]
  refine or_congr (and_congr Iff.rfl (forall_congr' fun i => ⟨fun H hi => by rw [← km_prune (h := h) hi]; exact H hi, fun H hi => by rw [km_prune hi]; exact H hi⟩)) (exists_congr fun n => ?_)
  have key : ∀ (h1 : n < l.length), (vAt (cAt (prune l h) n).l ((cAt (prune l h) n).l.length - 1)).1 = (vAt (cAt l n).l ((cAt l n).l.length - 1)).1 := fun h1 => by
    rw [prune_at l h h1]
    show (vAt (prL (cAt l n).l h) ((prL (cAt l n).l h).length - 1)).1 = _
    have h3 := (hs.2 n h1).2.2.1
    have := prL_len (v := (cAt l n).l) (h := h) h3
    rw [prL_at, prL_length, show un (cAt l n).l h - 1 + ((cAt l n).l.length - (un (cAt l n).l h - 1) - 1) = (cAt l n).l.length - 1 by omega]
  constructor
  · rintro ⟨h1, h2, h3, h4⟩
    rw [key h1] at h4
    exact ⟨h1, (km_prune h1 t r).1 h2, fun i hi => by rw [← km_prune (h := h) (show i < l.length by omega)]; exact h3 i hi, h4⟩
  · rintro ⟨h1, h2, h3, h4⟩
    rw [← key h1] at h4
    exact ⟨h1, (km_prune h1 t r).2 h2, fun i hi => by rw [km_prune (show i < l.length by omega)]; exact h3 i hi, h4⟩

theorem lastP_prune {l : List Ch} {h t r : Int} (hs : storeOk l) : lastP (prune l h) t r = lastP l t r := lastP_congr fun p => by
  have e : storeOk (prune l h) ↔ storeOk l := ⟨fun _ => hs, fun _ => storeOk_prune hs⟩
  unfold LAns
  rw [e]
  simp only [lastAt_prune hs]

theorem St.prune {l : List Ch} {h g : Int} (hg : h ≤ g) : ∀ {k : Nat} {rs : List Rw}, k ≤ l.length → St (prune l h) g k rs → St l g k rs
  | 0, rs, _, hst => hst
  | k + 1, rs, hk, ⟨rs0, x, h1, h2, h3⟩ => by
    rw [prune_at l h hk] at h2 h3
    exact ⟨rs0, x, St.prune hg (Nat.le_of_succ_le hk) h1, (prL_last hg).1 h2, h3⟩

theorem SAns.prune {l : List Ch} {h g : Int} {rs rs' : List Rw} (hs : storeOk l) (hg : h ≤ g) (h1 : SAns (prune l h) g rs) (h2 : SAns l g rs') : rs = rs' := by
  rcases h1 with ⟨h1, rfl⟩ | ⟨h1, h3⟩ <;> rcases h2 with ⟨g1, rfl⟩ | ⟨g1, g3⟩
  · rfl
  · exact absurd ⟨storeOk_prune hs, g1.2⟩ h1
  · exact absurd ⟨hs, h1.2⟩ g1
  · rw [prune_length] at h3
    exact (h3.prune hg (Nat.le_refl _)).one g3

theorem wf_prune {l : List Ch} {h : Int} (hw : WfCh l) : WfCh (prune l h) := fun i hi => by
  rw [prune_length] at hi
  rw [prune_at l h hi]
  exact hw i hi
theorem small_prune {l : List Ch} {h : Int} (hn : Small l) : Small (prune l h) := by
  refine ⟨by rw [prune_length]; exact hn.1, fun i hi => ?_⟩
  rw [prune_length] at hi
  rw [prune_at l h hi]
  show (prL _ _).length ≤ _
  rw [prL_length]
  have := hn.2 i hi
  omega
theorem implReadAt_pr (v : Value) (l : List Ch) (t r h g : Int) (w : World) {lo hi : Nat} (hl : ChainsAt lo hi w v (prune l h)) (hs : storeOk l) (hg : h ≤ g) (hw : WfCh l) (wt : wf t) (wr : wf r) (hn : l.length ≤ 1048576) :
    Calls Try.prog 14 #[.agg #[v], .agg #[.int .i64 t, .int .i64 r], .int .i64 g] w fun e w' => e = .returned (.tuple #[.int .i64 (readP l t r g).1, .int .i64 (readP l t r g).2]) ∧ Below w.heap.size w w' := by
  rw [← readP_prune hs hg]
  exact implReadAt_is v _ t r g w hl (wf_prune hw) wt wr (by rw [prune_length]; exact hn)
theorem implLastAt_pr (v : Value) (l : List Ch) (t r h : Int) (w : World) {lo hi : Nat} (hl : ChainsAt lo hi w v (prune l h)) (hs : storeOk l) (hw : WfCh l) (wt : wf t) (wr : wf r) (hn : l.length ≤ 1048576) :
    Calls Try.prog 15 #[.agg #[v], .agg #[.int .i64 t, .int .i64 r]] w fun e w' => e = .returned (.int .i64 (lastP l t r)) ∧ Below w.heap.size w w' := by
  rw [← lastP_prune (h := h) hs]
  exact implLastAt_is v _ t r w hl (wf_prune hw) wt wr (by rw [prune_length]; exact hn)
theorem ownS_chains {lo : Nat} {w : World} {v : Value} {l : List Ch} (h : OwnS lo w v l) (hn : Small l) : ChainsAt lo w.heap.size w v l := by
  rcases h with ⟨rfl, rfl⟩ | ⟨b, Bs, cap, rfl, ho⟩
  · exact ⟨none, 0, rfl, Nat.zero_le _, fun hp => absurd hp (Nat.lt_irrefl _)⟩
  · exact ho.chains hn
theorem ownS_len {lo : Nat} {w : World} {v : Value} {l : List Ch} (h : OwnS lo w v l) : ∃ a c, v = .slice a l.length c := by
  rcases h with ⟨rfl, rfl⟩ | ⟨b, Bs, cap, rfl, ho⟩
  · exact ⟨none, 0, rfl⟩
  · exact ⟨_, _, rfl⟩

end Go.Proofs.Ytifdfelpbonckaa
