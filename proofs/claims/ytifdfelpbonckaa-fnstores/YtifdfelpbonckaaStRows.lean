/- The rows at an hour: in order, none 0, and each is what is read then. -/
import Derived.Test.YtifdfelpbonckaaRSpec
namespace Go.Proofs.Ytifdfelpbonckaa
open Go.ChangeShapes Go.WideShapes Go.ChangeAt Go.RowKit Go.Sort Go.Deep
set_option linter.unusedVariables false

theorem rAt_lt {l m : List Rw} {i : Nat} (hi : i < l.length) : rAt (l ++ m) i = rAt l i := by
  simp [rAt, List.getElem?_append_left hi]
theorem rAt_end (l : List Rw) (x : Rw) : rAt (l ++ [x]) l.length = x := by simp [rAt]

theorem rowOfF_app {t r : Int} {y : Rw} (l : List Rw) (h : ¬ (y.t = t ∧ y.r = r)) : rowOfF t r (l ++ [y]) = rowOfF t r l := by
  induction l with
  | nil => simp only [List.nil_append, rowOfF]; rw [if_neg h]
  | cons x l ih => simp only [List.cons_append, rowOfF]; rw [ih]

theorem St.keys {l : List Ch} {h : Int} (hs : storeOk l) : ∀ {k : Nat} {rs : List Rw}, k ≤ l.length → St l h k rs →
    rowsOk' rs ∧ ∀ i, i < rs.length → ∃ j, j < k ∧ km l j (rAt rs i).t (rAt rs i).r
  | 0, rs, _, hst => by
    rw [show rs = [] from hst]
    exact ⟨⟨fun i hi => absurd hi (Nat.not_lt_zero _), fun i hi => absurd hi (Nat.not_lt_zero _)⟩, fun i hi => absurd hi (Nat.not_lt_zero _)⟩
  | k + 1, rs, hk, ⟨rs0, x, h1, h2, h3⟩ => by
    obtain ⟨⟨g1, g2⟩, g3⟩ := St.keys hs (Nat.le_of_succ_le hk) h1
    by_cases hz : x.2 = 0
    · rw [if_pos hz] at h3
      subst h3
      exact ⟨⟨g1, g2⟩, fun i hi => by obtain ⟨j, hj, hkm⟩ := g3 i hi; exact ⟨j, by omega, hkm⟩⟩
    · rw [if_neg hz] at h3
      subst h3
      have hlen : (rs0 ++ [(⟨(cAt l k).t, (cAt l k).r, x.2⟩ : Rw)]).length = rs0.length + 1 := by simp
      refine ⟨⟨fun i hi => ?_, fun i hi => ?_⟩, fun i hi => ?_⟩
      · rw [hlen] at hi
        by_cases e : i < rs0.length
        · have := g1 i e
          unfold rowOk at this ⊢
          rw [rAt_lt e, rAt_lt (show i - 1 < rs0.length by omega)]
          exact this
        · obtain rfl : i = rs0.length := by omega
          unfold rowOk
          rw [rAt_end]
          refine ⟨(hs.2 k hk).1, fun hp => ?_⟩
          rw [rAt_lt (show rs0.length - 1 < rs0.length by omega)]
          obtain ⟨j, hj, hkm⟩ := g3 (rs0.length - 1) (by omega)
          have := keys_up hs j (k - j - 1) (by omega)
          rw [show j + (k - j - 1) + 1 = k by omega, hkm.1, hkm.2] at this
          exact this
      · rw [hlen] at hi
        by_cases e : i < rs0.length
        · rw [rAt_lt e]; exact g2 i e
        · obtain rfl : i = rs0.length := by omega
          rw [rAt_end]; exact hz
      · rw [hlen] at hi
        by_cases e : i < rs0.length
        · rw [rAt_lt e]
          obtain ⟨j, hj, hkm⟩ := g3 i e
          exact ⟨j, by omega, hkm⟩
        · obtain rfl : i = rs0.length := by omega
          rw [rAt_end]; exact ⟨k, by omega, rfl, rfl⟩

theorem St.none {l : List Ch} {h t r : Int} (hs : storeOk l) {k : Nat} {rs : List Rw} (hk : k ≤ l.length) (hst : St l h k rs) (hn : ∀ j, j < k → ¬ km l j t r) : rowOfF t r rs = 0 :=
  rowOfF_miss fun i hi he => by
    obtain ⟨j, hj, h1, h2⟩ := (St.keys hs hk hst).2 i hi
    exact hn j hj ⟨by rw [h1]; exact he.1, by rw [h2]; exact he.2⟩

theorem St.one_row {l : List Ch} {h t r : Int} (hs : storeOk l) : ∀ {k : Nat} {rs : List Rw} {n : Nat} {x : Vr}, k ≤ l.length → St l h k rs → n < k → km l n t r → IsLast (cAt l n).l h (cAt l n).l.length x → rowOfF t r rs = x.2
  | 0, rs, n, x, _, _, hn, _, _ => absurd hn (Nat.not_lt_zero _)
  | k + 1, rs, n, x, hk, ⟨rs0, y, h1, h2, h3⟩, hn, hkm, hx => by
    by_cases e : n = k
    · subst e
      obtain rfl := h2.one hx
      have hno : ∀ j, j < n → ¬ km l j t r := fun j hj h => by have := keys_one hs (show j < l.length by omega) hk h hkm; omega
      have h0 := St.none (t := t) (r := r) hs (Nat.le_of_succ_le hk) h1 hno
      by_cases hz : y.2 = 0
      · rw [if_pos hz] at h3; subst h3; rw [h0, hz]
      · rw [if_neg hz] at h3
        subst h3
        rw [rowOfF_hit (k := rs0.length) (by simp) (by rw [rAt_end]; exact hkm) (fun j hj => ?_), rAt_end]
        rw [rAt_lt hj]
        intro he
        obtain ⟨i, hi, e1, e2⟩ := (St.keys hs (Nat.le_of_succ_le hk) h1).2 j hj
        exact hno i hi ⟨by rw [e1]; exact he.1, by rw [e2]; exact he.2⟩
    · have ih := St.one_row hs (Nat.le_of_succ_le hk) h1 (show n < k by omega) hkm hx
      by_cases hz : y.2 = 0
      · rw [if_pos hz] at h3; subst h3; exact ih
      · rw [if_neg hz] at h3
        subst h3
        rw [rowOfF_app (t := t) (r := r) (y := ⟨(cAt l k).t, (cAt l k).r, y.2⟩) _ (fun he => e (keys_one hs (show n < l.length by omega) hk hkm he)), ih]

theorem St.read {l : List Ch} {h t r : Int} (hs : storeOk l) {rs : List Rw} {x : Vr} (hst : St l h l.length rs) (hx : IsRead l t r h x) : rowOfF t r rs = x.2 := by
  rcases hx with ⟨rfl, hn⟩ | ⟨n, h1, h2, h3, h4⟩
  · exact St.none hs (Nat.le_refl _) hst hn
  · exact St.one_row hs (Nat.le_refl _) hst h1 h2 h4

theorem IsRead.hours {l : List Ch} {t r h : Int} {x : Vr} (hs : storeOk l) (hh : hourB h = true) (hx : IsRead l t r h x) : 0 ≤ x.1 ∧ x.1 ≤ h := by
  rw [hourB_iff] at hh
  rcases hx with ⟨rfl, hn⟩ | ⟨n, h1, h2, h3, ⟨rfl, h4⟩ | ⟨i, h5, rfl, h6, h7⟩⟩
  · exact ⟨by decide, hh.1⟩
  · exact ⟨by decide, hh.1⟩
  · have := ((hs.2 n h1).2.2.2.2 i h5).1
    exact ⟨by omega, h6⟩

end Go.Proofs.Ytifdfelpbonckaa
