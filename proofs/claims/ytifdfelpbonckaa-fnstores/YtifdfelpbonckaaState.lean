/- The rows at an hour: both StateAt functions. -/
import Derived.Test.YtifdfelpbonckaaRows0
namespace Go.Proofs.Ytifdfelpbonckaa
open Go.ChangeShapes Go.WideShapes Go.ChangeAt Go.RowKit Go.Sort
set_option linter.unusedVariables false
set_option maxRecDepth 100000
attribute [local go_sem ↓] Go.wp_at_zero Go.wp_at_succ

/-- The rows of the first k chains at hour h. -/
def St (l : List Ch) (h : Int) : Nat → List Rw → Prop
  | 0, rs => rs = []
  | k + 1, rs => ∃ rs0 x, St l h k rs0 ∧ IsLast (cAt l k).l h (cAt l k).l.length x ∧ rs = (if x.2 = 0 then rs0 else rs0 ++ [⟨(cAt l k).t, (cAt l k).r, x.2⟩])

theorem St.one {l : List Ch} {h : Int} : ∀ {k : Nat} {a b : List Rw}, St l h k a → St l h k b → a = b
  | 0, a, b, ha, hb => by rw [show a = [] from ha, show b = [] from hb]
  | k + 1, a, b, ⟨a0, x, h1, h2, h3⟩, ⟨b0, y, g1, g2, g3⟩ => by
    obtain rfl := h2.one g2
    obtain rfl := St.one h1 g1
    rw [h3, g3]
theorem St.len {l : List Ch} {h : Int} : ∀ {k : Nat} {a : List Rw}, St l h k a → a.length ≤ k
  | 0, a, ha => by rw [show a = [] from ha]; simp
  | k + 1, a, ⟨a0, x, h1, h2, h3⟩ => by
    have := St.len h1
    rw [h3]; split
    · omega
    · simp; omega

def SAns (l : List Ch) (h : Int) (rs : List Rw) : Prop := (¬ (storeOk l ∧ hourB h = true) ∧ rs = []) ∨ ((storeOk l ∧ hourB h = true) ∧ St l h l.length rs)
theorem SAns.one {l : List Ch} {h : Int} {a b : List Rw} (ha : SAns l h a) (hb : SAns l h b) : a = b := by
  rcases ha with ⟨h1, rfl⟩ | ⟨h1, h2⟩ <;> rcases hb with ⟨g1, rfl⟩ | ⟨g1, g2⟩
  · rfl
  · exact absurd g1 h1
  · exact absurd h1 g1
  · exact h2.one g2
theorem SAns.len {l : List Ch} {h : Int} {a : List Rw} (ha : SAns l h a) : a.length ≤ 200 := by
  rcases ha with ⟨h1, rfl⟩ | ⟨h1, h2⟩
  · simp
  · have := h2.len; have := h1.1.1; omega

theorem ownsRow_below {w w' : World} {base : Nat} {e : TypeId} {size : Nat} {v : Value} {n : Nat} {xs : List Value} (h : w.ownsRow base e size v n xs) (hb : Below w.heap.size w w') : w'.ownsRow base e size v n xs := by
  obtain ⟨h1, h2⟩ := h
  refine ⟨h1, ?_⟩
  rcases h2 with h2 | ⟨g, cap, cur, hv, hg, hh, r⟩
  · exact .inl h2
  · exact .inr ⟨g, cap, cur, hv, hg, by rw [hb.block g (Array.getElem?_eq_some_iff.1 hh).1]; exact hh, r⟩

theorem infoRow : (Try.prog.info? 38).map (fun i => (i.zero, i.size, i.bytes)) = some (some (.agg #[.int .i64 0, .int .i64 0, .int .i64 0]), 3, 24) := by kernel_rfl

theorem build_row (t r v : Int) (w : World) : (Instr.build 38 #[(0, .agg #[.int .i64 t, .int .i64 r]), (1, .int .i64 v)]).run Try.prog w = .ok (.agg #[.int .i64 t, .int .i64 r, .int .i64 v]) w := by kernel_rfl

theorem news3 (w : World) (o : Obj) (x y z : Value) (T : TypeId) : ∀ (j : Nat) (u : Value), [x, y, z][j]? = some u → ((w.alloc o).alloc (.cells #[x, y, z] T)).cell? ((⟨w.heap.size + 1, 0, none⟩ : Addr).add j) = some u := by
  intro j u hj
  match j, hj with
  | 0, hj => simp at hj; subst hj; simp [go_sem, Addr.add]
  | 1, hj => simp at hj; subst hj; simp [go_sem, Addr.add]
  | 2, hj => simp at hj; subst hj; simp [go_sem, Addr.add]
  | j + 3, hj => simp at hj

theorem news3_one (t r v : Int) : ∀ u ∈ [Value.int .i64 t, .int .i64 r, .int .i64 v], u.oneCell' = true := by
  intro u hu
  simp at hu
  rcases hu with rfl | rfl | rfl <;> rfl

theorem grown_below {w w' : World} {B : Nat} {v : Value} {base : Nat} {e : TypeId} {size n : Nat} {xs : List Value} (hown : w.ownsRow base e size v n xs) (hg : w.grownBy w' v.ownBlock) (hB : B ≤ base) (hs : B ≤ w.heap.size) : Below B w w' :=
  ⟨hg.os, hg.tape, hg.output, hg.size, fun k hk => hg.block k (by omega) (fun e => by have := (hown.lt k e.symm).1; omega)⟩

set_option maxHeartbeats 1000000 in
theorem implStateAt_any (v : Value) (l : List Ch) (h : Int) (w : World) {lo hi : Nat} (hl : ChainsAt lo hi w v l) :
    Calls Try.prog 12 #[.agg #[v], .int .i64 h] w fun e w' => ∃ rs v', e = .returned v' ∧ SAns l h rs ∧ OwnR w.heap.size w' v' rs ∧ Below w.heap.size w w' := by
  have hl2 := hl
  obtain ⟨a, cap, hv, hm, hc⟩ := hl2
  subst hv
  have hbx : Below w.heap.size w (w.alloc (Obj.cells #[Value.slice a l.length cap] 25)) := (Below.refl _ _).alloc (Nat.le_refl _) _
  obtain ⟨i0, hi, hz0, hz1, hz2⟩ := info_parts infoRow
  have hbr := build_row
  go_enter Try.func12, Try.ntmps12
  go_wp2_with fail
  refine (implStoreOk_any _ l _ (hl.stays hbx)).mono ?_
  rintro e w1 ⟨⟨q, rfl, hq⟩, hb1⟩
  have b1 := hbx.trans (hb1.mono hbx.size)
  have p0 : w1.cell? ⟨w.heap.size, 0, none⟩ = some (.slice a l.length cap) := cell_stays hb1 (by simp [go_sem])
  clear hb1 hbx
  by_cases hs : storeOk l
  · obtain rfl := hq.2 hs
    clear hq
    by_cases hh : hourB h = true
    · have h200 := hs.1
      go_wp2_with (first | (go_at_call 31; refine (isHour_any _ _).mono ?_; rintro e w2 ⟨rfl, rfl⟩))
      go_loopw [5, 20] (fun x i wr => ∃ (k : Nat) (rs : List Rw), k ≤ l.length ∧ i = .int .i64 k ∧ St l h k rs ∧ wr.ownsRow w.heap.size 38 3 x rs.length (flat rs) ∧ Below w.heap.size w wr) (fun _ i _ => l.length - (intOf i).toNat)
      case atStart => exact ⟨0, [], Nat.zero_le _, rfl, rfl, World.ownsRow_nil _ _ _ _, b1⟩
      case round =>
        obtain ⟨k, rs, hk, rfl, hst, hown, hb⟩ := hrel
        by_cases hlt : k < l.length
        · obtain ⟨b, off, rfl, hlo, hhi, hcc⟩ := hc (by omega)
          obtain ⟨c0, c1, a2, cap2, c2, c3⟩ := hcc k hlt
          replace c0 := cell_stays hb c0
          replace c1 := cell_stays hb c1
          replace c2 := cell_stays hb c2
          have hlen := hst.len
          clear hcc hc
          have hA : Below wr.heap.size wr (wr.alloc (Obj.cells #[Value.int IntKind.i64 (cAt l k).t, Value.int IntKind.i64 (cAt l k).r, Value.slice a2 (cAt l k).l.length cap2] 49)) := (Below.refl _ _).alloc (Nat.le_refl _) _
          go_wp2_with fail
          refine (verAt_any _ _ _ _ ((c3.stays hb).stays hA)).mono ?_
          rintro e w3 ⟨m, rfl, hm3, hb3⟩
          have hx := until_last (hs.2 k hlt).2.2 hm3
          have hown3 := ownsRow_below (ownsRow_below hown hA) hb3
          have bw3 := hb.trans ((hA.trans (hb3.mono hA.size)).mono hb.size)
          have d0 : w3.cell? ⟨wr.heap.size, 0, none⟩ = some (.int .i64 (cAt l k).t) := cell_stays hb3 (by simp [go_sem])
          have d1 : w3.cell? ⟨wr.heap.size, 1, none⟩ = some (.int .i64 (cAt l k).r) := cell_stays hb3 (by simp [go_sem])
          have hlt3 : wr.heap.size < w3.heap.size := cell_lt d0
          generalize rdV (cAt l k).l m = x at hx
          clear hm3 hb3 hA c0 c1 c2 c3 hown p0
          by_cases hz : x.2 = 0
          · have hz' : (x.2 != 0) = false := by simp [hz]
            have HZ : Hid (x.2 = 0) := hz
            clear hz
            go_wp2
            go_roundw
            case rel => exact ⟨k + 1, rs, by omega, by go_num, ⟨rs, x, hst, hx, by rw [if_pos HZ.out]⟩, hown3.alloc _, bw3.alloc bw3.size _⟩
            case measure => simp [intOf]; omega
          · have hz' : (x.2 != 0) = true := by simp [hz]
            have hsz3 := bw3.size
            go_wp2_with (at_builtin; refine wpList_append_lies _ rfl _ _ 26 rfl w.heap.size 38 i0 _ 3 24 Try.underlying26 hi hz0 hz1 hz2 rfl (by decide) _ rs.length (flat rs) rfl ((hown3.alloc _).alloc _) ⟨w3.heap.size + 1, 0, none⟩ 1 1 (cells3 ⟨(cAt l k).t, (cAt l k).r, x.2⟩) rfl rfl (news3 _ _ _ _ _ _) (news3_one _ _ _) (by omega) (by unfold maxLen; omega) (by omega) (by simp; omega) (w3.heap.size + 1 + 1) (by simp) ?_; intro g cap4 w4 hown4 hgrow hat hlt4)
            go_roundw
            case rel => exact ⟨k + 1, rs ++ [⟨(cAt l k).t, (cAt l k).r, x.2⟩], by omega, by go_num, ⟨rs, x, hst, hx, by rw [if_neg hz]⟩, by rw [flat_snoc]; simpa using hown4, ((bw3.alloc bw3.size _).alloc (by simp; omega) _).trans (grown_below ((hown3.alloc _).alloc _) hgrow (Nat.le_refl _) (by simp; omega))⟩
            case measure => simp [intOf]; omega
        · have hkl : k = l.length := by omega
          subst hkl
          clear hc
          go_wp2
          go_ret
          exact ⟨rs, _, rfl, .inr ⟨⟨hs, hh⟩, hst⟩, OwnR.of_ownsRow hown, hb⟩
    · have hh' : hourB h = false := by simpa using hh
      clear hc
      go_wp2_with (first | (go_at_call 31; refine (isHour_any _ _).mono ?_; rintro e w2 ⟨rfl, rfl⟩))
      go_ret
      exact ⟨[], _, rfl, .inl ⟨fun h => hh h.2, rfl⟩, .inl ⟨rfl, rfl⟩, b1⟩
  · obtain rfl := says_false hq hs
    clear hq hc
    go_wp2
    go_ret
    exact ⟨[], _, rfl, .inl ⟨fun h => hs h.1, rfl⟩, .inl ⟨rfl, rfl⟩, b1⟩

end Go.Proofs.Ytifdfelpbonckaa
