/- Tables and their signs: both TableText and both TableOf functions. -/
import Derived.Test.YtkdlgglikhbnkacLex0
namespace Go.Proofs.Ytkdlgglikhbnkac
open Go.ChangeShapes Go.WideShapes Go.ChangeAt Go.RowKit
set_option linter.unusedVariables false
set_option maxRecDepth 100000
attribute [local go_sem ↓] Go.wp_at_zero Go.wp_at_succ
attribute [local go_sem] byte_eq

def tText (t : Int) : ByteArray := if t = 0 then ⟨#[65]⟩ else if t = 1 then ⟨#[66]⟩ else if t = 2 then ⟨#[67]⟩ else if t = 3 then ⟨#[68]⟩ else if t = 4 then ⟨#[35]⟩ else ⟨#[]⟩
def tOf (l : List UInt8) : Int := if l = [65] then 0 else if l = [66] then 1 else if l = [67] then 2 else if l = [68] then 3 else -1

theorem tText_out {t : Int} (h : t < 0 ∨ 5 ≤ t) : tText t = ⟨#[]⟩ := by
  unfold tText
  repeat rw [if_neg (by omega)]

theorem tOf_text {l : List UInt8} {k : Nat} (hk : k < 4) (h : l = (tText k).toList) : tOf l = k := by
  have : k = 0 ∨ k = 1 ∨ k = 2 ∨ k = 3 := by omega
  rcases this with rfl | rfl | rfl | rfl <;> (subst h; simp [tText, tOf])
theorem tOf_none {l : List UInt8} (h : ∀ j : Nat, j < 4 → l ≠ (tText j).toList) : tOf l = -1 := by
  have h0 := h 0 (by omega)
  have h1 := h 1 (by omega)
  have h2 := h 2 (by omega)
  have h3 := h 3 (by omega)
  simp [tText] at h0 h1 h2 h3
  simp [tOf, h0, h1, h2, h3]

theorem implTableText_any (t : Int) (w : World) :
    Calls Try.prog 47 #[.int .i64 t] w fun e w' => e = .returned (.string (tText t)) ∧ w' = w := by
  by_cases h0 : t < 0
  · have : ¬ (0 ≤ t) := by omega
    have : (t == 4) = false := by rw [beq_eq_false_iff_ne]; omega
    go_enter Try.func47, Try.ntmps47
    go_wp2
    go_ret
    exact ⟨by rw [tText_out (.inl h0)]; rfl, rfl⟩
  by_cases h5 : 5 ≤ t
  · have : (t == 4) = false := by rw [beq_eq_false_iff_ne]; omega
    have : ¬ (t < 4) := by omega
    have : 0 ≤ t := by omega
    go_enter Try.func47, Try.ntmps47
    go_wp2
    go_ret
    exact ⟨by rw [tText_out (.inr h5)]; rfl, rfl⟩
  have : t = 0 ∨ t = 1 ∨ t = 2 ∨ t = 3 ∨ t = 4 := by omega
  rcases this with rfl | rfl | rfl | rfl | rfl
  all_goals
    go_enter Try.func47, Try.ntmps47
    go_wp2
    go_ret
    exact ⟨rfl, rfl⟩

theorem tOf_one {b : UInt8} (h1 : 65 ≤ b.toNat) (h2 : b.toNat ≤ 68) : tOf [b] = (b.toNat : Int) - 65 := by
  have : b.toNat = 65 ∨ b.toNat = 66 ∨ b.toNat = 67 ∨ b.toNat = 68 := by omega
  have e : ∀ n, b.toNat = n → b = UInt8.ofNat n := fun n h => by rw [← h, UInt8.ofNat_toNat]
  rcases this with h | h | h | h <;> (rw [e _ h]; decide)
theorem tOf_other {b : UInt8} (h : b.toNat < 65 ∨ 68 < b.toNat) : tOf [b] = -1 := by
  have e : ∀ c : UInt8, 65 ≤ c.toNat → c.toNat ≤ 68 → b ≠ c := by rintro c h1 h2 rfl; omega
  simp [tOf, e 65 (by decide) (by decide), e 66 (by decide) (by decide), e 67 (by decide) (by decide), e 68 (by decide) (by decide)]
theorem tOf_long {l : List UInt8} (h : l.length ≠ 1) : tOf l = -1 := by
  have e : ∀ c : UInt8, l ≠ [c] := by rintro c rfl; simp at h
  simp [tOf, e]

theorem specTableOf_any (s : ByteArray) (w : World) :
    Calls Try.prog 57 #[.string s] w fun e w' => e = .returned (.int .i64 (tOf s.toList)) ∧ w' = w := by
  have hsz : s.size = s.data.toList.length := rfl
  have htl : s.toList = s.data.toList := ByteArray.toList_eq s
  by_cases h1 : s.size = 1
  · obtain ⟨b, hl⟩ : ∃ b, s.data.toList = [b] := by
      cases hh : s.data.toList with
      | nil => have h2 : s.size = 0 := by rw [hsz, hh]; rfl
               omega
      | cons b r => cases r with
        | nil => exact ⟨b, rfl⟩
        | cons c r => simp [hh] at hsz; omega
    have hb : bAt s 0 = (b.toNat : Int) := by simp [bAt, hl]
    have hs1 : 0 < s.size := by omega
    clear hsz
    by_cases h2 : 65 ≤ b.toNat
    · by_cases h3 : b.toNat ≤ 68
      · have ht := tOf_one h2 h3
        rw [htl, hl, ht, ← hb]
        have g2 : 65 ≤ bAt s 0 := by omega
        have g3 : bAt s 0 ≤ 68 := by omega
        clear hb ht hl htl h2 h3
        go_enter Try.func57, Try.ntmps57
        go_wp2
        go_ret
        exact ⟨rfl, rfl⟩
      · have ht := tOf_other (b := b) (by omega)
        rw [htl, hl, ht]
        have g2 : 65 ≤ bAt s 0 := by omega
        have g3 : ¬ bAt s 0 ≤ 68 := by omega
        clear hb ht hl htl h2 h3
        go_enter Try.func57, Try.ntmps57
        go_wp2
        go_ret
        exact ⟨rfl, rfl⟩
    · have ht := tOf_other (b := b) (by omega)
      rw [htl, hl, ht]
      have g2 : ¬ 65 ≤ bAt s 0 := by omega
      clear hb ht hl htl h2
      go_enter Try.func57, Try.ntmps57
      go_wp2
      go_ret
      exact ⟨rfl, rfl⟩
  · have ht := tOf_long (l := s.data.toList) (by omega)
    rw [htl, ht]
    clear hsz htl ht
    have h1' : ((s.size : Int) == 1) = false := by rw [beq_eq_false_iff_ne]; omega
    go_enter Try.func57, Try.ntmps57
    go_wp2
    go_ret
    exact ⟨rfl, rfl⟩

theorem implTableOf_any (s : ByteArray) (w : World) :
    Calls Try.prog 30 #[.string s] w fun e w' => e = .returned (.int .i64 (tOf s.toList)) ∧ w' = w := by
  go_enter Try.func30, Try.ntmps30
  go_wp2
  go_loop [4] (fun i => ∃ k : Nat, k ≤ 4 ∧ i = .int .i64 k ∧ ∀ j : Nat, j < k → s.toList ≠ (tText j).toList) (fun i => 4 - (intOf i).toNat)
  case atStart => exact ⟨0, Nat.zero_le _, rfl, fun j hj => absurd hj (Nat.not_lt_zero _)⟩
  case round =>
    obtain ⟨k, hk, rfl, hs⟩ := hrel
    by_cases hlt : k < 4
    · go_wp2_with fail
      refine (implTableText_any k _).mono ?_
      rintro e w1 ⟨rfl, rfl⟩
      by_cases he : s.toList = (tText k).toList
      · have hq : (s.toList == (tText k).toList) = true := by simpa using he
        have ht := tOf_text hlt he
        clear he
        go_wp2
        go_ret
        exact ⟨by first | rfl | (rw [ht]; rfl), rfl⟩
      · have hq : (s.toList == (tText k).toList) = false := by simpa using he
        go_wp2
        go_round
        case rel =>
          refine ⟨k + 1, by omega, by go_num, fun j hj => ?_⟩
          by_cases e : j = k
          · subst e; exact he
          · exact hs j (by omega)
        case measure => simp [intOf]; omega
    · have hkk : k = 4 := by omega
      have ht : tOf s.toList = -1 := tOf_none (fun j hj => hs j (by omega))
      go_wp2
      go_ret
      exact ⟨by first | rfl | (rw [ht]; rfl), rfl⟩
end Go.Proofs.Ytkdlgglikhbnkac
