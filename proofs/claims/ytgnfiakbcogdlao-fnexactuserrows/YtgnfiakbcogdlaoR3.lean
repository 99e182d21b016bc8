/- The rows of the tables that texts can name: both UserRows. -/
import Derived.Test.YtgnfiakbcogdlaoR2
import Derived.Test.YtgnfiakbcogdlaoRApp
namespace Go.Proofs.Ytgnfiakbcogdlao
open Go.ChangeShapes Go.WideShapes Go.ChangeAt Go.RowKit Go.Sort Go.Deep Go.Joins
set_option linter.unusedVariables false
set_option maxRecDepth 100000
attribute [local go_sem ↓] Go.wp_at_zero Go.wp_at_succ

def isUser (x : Rw) : Bool := decide (x.t ≠ 4)
def usersF (l : List Rw) : List Rw := l.filter isUser
theorem users_len (l : List Rw) (k : Nat) : ((l.take k).filter isUser).length ≤ k := Nat.le_trans (List.length_filter_le _ _) (by simp; omega)

set_option maxHeartbeats 1000000 in
theorem l6user_any (v : Value) (l : List Rw) (w : World) {lo hi : Nat} (h : RowsAt lo hi w v l) (hn : l.length ≤ 1048576) :
    Calls Try.prog 46 #[v] w fun e w' => ∃ v', e = .returned v' ∧ w'.ownsRow w.heap.size 74 3 v' (usersF l).length (flat (usersF l)) ∧ Below w.heap.size w w' := by
  obtain ⟨a, cap, rfl, hm, hc⟩ := h
  clear hm
  obtain ⟨ti, hi, hz0, hz1, hz2⟩ := info_parts infoRow
  go_enter Try.func46, Try.ntmps46
  go_wp2
  go_loopw [3, 4] (fun x i wr => ∃ (k : Nat) (rs : List Rw), k ≤ l.length ∧ i = .int .i64 k ∧ Hid (rs = (l.take k).filter isUser) ∧ rs.length ≤ k ∧ wr.ownsRow w.heap.size 74 3 x rs.length (flat rs) ∧ Below w.heap.size w wr) (fun _ i _ => l.length - (intOf i).toNat)
  case atStart => exact ⟨0, [], Nat.zero_le _, rfl, (rfl : ([] : List Rw) = _), Nat.le_refl _, World.ownsRow_nil _ _ _ _, Below.refl _ _⟩
  case round =>
    obtain ⟨k, rs, hk, rfl, hst, hlen, hown, hb⟩ := hrel
    by_cases hlt : k < l.length
    · obtain ⟨b, off, rfl, hlo, hhi, hcc⟩ := hc (by omega)
      obtain ⟨c0, c1, c2⟩ := hcc k hlt
      replace c0 := cell_stays hb c0
      replace c1 := cell_stays hb c1
      replace c2 := cell_stays hb c2
      have hz := hb.size
      clear hcc hc
      by_cases h4 : (rAt l k).t = 4
      · have h4' : ((rAt l k).t != 4) = false := by simpa using h4
        have hst' : Hid (rs = (l.take (k + 1)).filter isUser) := by
          show _ = _
          rw [take_step isUser l k hlt, rAt_get hlt, if_neg (by simp [isUser, h4]), List.append_nil]; exact hst.out
        clear h4 hst
        go_wp2
        go_roundw
        case rel => exact ⟨k + 1, rs, by omega, by go_num, hst', by omega, hown, hb⟩
        case measure => simp [intOf]; omega
      · have h4' : ((rAt l k).t != 4) = true := by simpa using h4
        have hst' : Hid (rs ++ [rAt l k] = (l.take (k + 1)).filter isUser) := by
          show _ = _
          rw [take_step isUser l k hlt, rAt_get hlt, if_pos (by simp [isUser, h4]), hst.out]
        clear h4 hst
        go_wp2_with (at_builtin; refine wpList_append_lies _ rfl _ _ 26 rfl w.heap.size 74 ti _ 3 24 Try.underlying26 hi hz0 hz1 hz2 rfl (by decide) _ rs.length (flat rs) rfl (hown.alloc _) ⟨wr.heap.size, 0, none⟩ 1 1 (cells3 (rAt l k)) rfl rfl (news3a _ _ _ _ _) (news3_one _ _ _) (by omega) (by unfold maxLen; omega) (by omega) (by simp; omega) (wr.heap.size + 1) (by simp) ?_; intro g cap4 w4 hown4 hgrow hat hlt4)
        go_roundw
        case rel => exact ⟨k + 1, rs ++ [rAt l k], by omega, by go_num, hst', by simp; omega, by rw [flat_snoc]; simpa using hown4, (hb.alloc hb.size _).trans (grown_below (hown.alloc _) hgrow (Nat.le_refl _) (by simp; omega))⟩
        case measure => simp [intOf]; omega
    · have hkl : k = l.length := by omega
      subst hkl
      clear hc
      have e : rs = usersF l := by rw [hst.out, List.take_length]; rfl
      subst e
      clear hst
      go_wp2
      go_ret
      exact ⟨_, rfl, hown, hb⟩

theorem hasLetter_any (t : Int) (w : World) : Calls Try.prog 47 #[.int .i64 t] w fun e w' => e = .returned (.bool (decide (0 ≤ t ∧ t < 4))) ∧ w' = w := by
  by_cases h1 : 0 ≤ t
  · by_cases h2 : t < 4
    · go_enter Try.func47, Try.ntmps47
      go_wp2
      go_ret
      exact ⟨by simp [h1, h2], rfl⟩
    · go_enter Try.func47, Try.ntmps47
      go_wp2
      go_ret
      exact ⟨by simp [h2], rfl⟩
  · go_enter Try.func47, Try.ntmps47
    go_wp2
    go_ret
    exact ⟨by simp; omega, rfl⟩

/-- What UserRows answers. -/
def UAns (base : Nat) (w' : World) (l : List Rw) (e : Ending) : Prop := ∃ v' rs, e = .returned v' ∧ ((rowsOk' l ∧ rs = usersF l) ∨ (¬ rowsOk' l ∧ rs = [])) ∧ OwnR base w' v' rs

theorem specUserRows_any (v : Value) (l : List Rw) (w : World) {lo hi : Nat} (h : RowsAt lo hi w v l) (hn : l.length ≤ 1048576) :
    Calls Try.prog 18 #[v] w fun e w' => UAns w.heap.size w' l e ∧ Below w.heap.size w w' := by
  obtain ⟨a, cap, hv⟩ : ∃ a cap, v = .slice a l.length cap := by obtain ⟨a, cap, h1, _⟩ := h; exact ⟨a, cap, h1⟩
  subst hv
  go_enter Try.func18, Try.ntmps18
  go_wp2_with fail
  refine (specRowsOk_any _ l _ h).mono ?_
  rintro e w1 ⟨⟨q, rfl, hq⟩, hb⟩
  by_cases hk : rowsOk' l
  · obtain rfl : q = true := hq.2 hk
    clear hq
    go_wp2_with fail
    refine (l6user_any _ l _ (h.stays hb) hn).mono ?_
    rintro e w2 ⟨v', rfl, hown, hb2⟩
    go_wp2
    go_ret
    exact ⟨⟨_, _, rfl, .inl ⟨hk, rfl⟩, OwnR.of_ownsRow (hown.mono hb.size)⟩, hb.trans (hb2.mono hb.size)⟩
  · obtain rfl : q = false := says_false hq hk
    clear hq
    go_wp2
    go_ret
    exact ⟨⟨_, _, rfl, .inr ⟨hk, rfl⟩, .inl ⟨rfl, rfl⟩⟩, hb⟩

set_option maxHeartbeats 1000000 in
theorem implUserRows_any (v : Value) (l : List Rw) (w : World) {lo hi : Nat} (h : RowsAt lo hi w v l) (hn : l.length ≤ 1048576) :
    Calls Try.prog 19 #[v] w fun e w' => UAns w.heap.size w' l e ∧ Below w.heap.size w w' := by
  have h' := h
  obtain ⟨a, cap, rfl, hm, hc⟩ := h
  clear hm
  obtain ⟨ti, hi, hz0, hz1, hz2⟩ := info_parts infoRow
  go_enter Try.func19, Try.ntmps19
  go_wp2_with fail
  refine (implRowsOk_any _ l _ h').mono ?_
  rintro e w1 ⟨⟨q, rfl, hq⟩, hb0⟩
  clear h'
  by_cases hok : rowsOk' l
  · obtain rfl : q = true := hq.2 hok
    clear hq
    go_wp2
    go_loopw [3, 11] (fun x i wr => ∃ (k : Nat) (rs : List Rw), k ≤ l.length ∧ i = .int .i64 k ∧ Hid (rs = (l.take k).filter isUser) ∧ rs.length ≤ k ∧ wr.ownsRow w.heap.size 74 3 x rs.length (flat rs) ∧ Below w.heap.size w wr) (fun _ i _ => l.length - (intOf i).toNat)
    case atStart => exact ⟨0, [], Nat.zero_le _, rfl, (rfl : ([] : List Rw) = _), Nat.le_refl _, World.ownsRow_nil _ _ _ _, hb0⟩
    case round =>
      obtain ⟨k, rs, hk, rfl, hst, hlen, hown, hb⟩ := hrel
      by_cases hlt : k < l.length
      · obtain ⟨b, off, rfl, hlo, hhi, hcc⟩ := hc (by omega)
        obtain ⟨c0, c1, c2⟩ := hcc k hlt
        replace c0 := cell_stays hb c0
        replace c1 := cell_stays hb c1
        replace c2 := cell_stays hb c2
        have hz := hb.size
        have htab := (tabB_iff _).1 (hok.1 k hlt).1
        clear hcc hc
        by_cases h4 : (rAt l k).t = 4
        · have h4' : decide (0 ≤ (rAt l k).t ∧ (rAt l k).t < 4) = false := by simp; omega
          have hst' : Hid (rs = (l.take (k + 1)).filter isUser) := by
            show _ = _
            rw [take_step isUser l k hlt, rAt_get hlt, if_neg (by simp [isUser, h4]), List.append_nil]; exact hst.out
          clear h4 hst htab
          go_wp2_with (go_at_call 47; refine (hasLetter_any _ _).mono ?_; rintro e w2 ⟨rfl, rfl⟩; rw [h4'])
          go_roundw
          case rel => exact ⟨k + 1, rs, by omega, by go_num, hst', by omega, hown.alloc _, hb.alloc hb.size _⟩
          case measure => simp [intOf]; omega
        · have h4' : decide (0 ≤ (rAt l k).t ∧ (rAt l k).t < 4) = true := by simp; omega
          have hst' : Hid (rs ++ [rAt l k] = (l.take (k + 1)).filter isUser) := by
            show _ = _
            rw [take_step isUser l k hlt, rAt_get hlt, if_pos (by simp [isUser, h4]), hst.out]
          clear h4 hst htab
          go_wp2_with (first | (go_at_call 47; refine (hasLetter_any _ _).mono ?_; rintro e w2 ⟨rfl, rfl⟩; rw [h4']) | (at_builtin; refine wpList_append_lies _ rfl _ _ 26 rfl w.heap.size 74 ti _ 3 24 Try.underlying26 hi hz0 hz1 hz2 rfl (by decide) _ rs.length (flat rs) rfl ((hown.alloc _).alloc _) ⟨wr.heap.size + 1, 0, none⟩ 1 1 (cells3 (rAt l k)) rfl rfl (news3 _ _ _ _ _ _) (news3_one _ _ _) (by omega) (by unfold maxLen; omega) (by omega) (by simp; omega) (wr.heap.size + 1 + 1) (by simp) ?_; intro g cap4 w4 hown4 hgrow hat hlt4))
          go_roundw
          case rel => exact ⟨k + 1, rs ++ [rAt l k], by omega, by go_num, hst', by simp; omega, by rw [flat_snoc]; simpa using hown4, ((hb.alloc hb.size _).alloc (by simp; omega) _).trans (grown_below ((hown.alloc _).alloc _) hgrow (Nat.le_refl _) (by simp; omega))⟩
          case measure => simp [intOf]; omega
      · have hkl : k = l.length := by omega
        subst hkl
        clear hc
        have e : rs = usersF l := by rw [hst.out, List.take_length]; rfl
        subst e
        clear hst
        go_wp2
        go_ret
        exact ⟨⟨_, _, rfl, .inl ⟨hok, rfl⟩, OwnR.of_ownsRow hown⟩, hb⟩
  · obtain rfl : q = false := says_false hq hok
    clear hq hc
    go_wp2
    go_ret
    exact ⟨⟨_, _, rfl, .inr ⟨hok, rfl⟩, .inl ⟨rfl, rfl⟩⟩, hb0⟩
end Go.Proofs.Ytgnfiakbcogdlao
