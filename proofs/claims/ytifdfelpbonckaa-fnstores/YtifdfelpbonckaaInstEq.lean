/- What the two Installs ask is the same. -/
import Derived.Test.YtifdfelpbonckaaSpecInst2
namespace Go.Proofs.Ytifdfelpbonckaa
open Go.ChangeShapes Go.WideShapes Go.ChangeAt Go.RowKit Go.Maps Go.Sort
set_option linter.unusedVariables false
open Go.ChangeShapes Go.WideShapes Go.ChangeAt Go.RowKit Go.Sort
set_option maxRecDepth 100000
attribute [local go_sem ↓] Go.wp_at_zero Go.wp_at_succ

theorem instKeys_one {l : List Ch} {r : List Rw} {ks ks' : List (Int × Int)} (h : InstKeys l r ks) (h' : InstKeys l r ks') : ks = ks' :=
  sorted_one h.2.1 h'.2.1 fun x => ⟨fun hx => (h'.2.2.2 x.1 x.2 (h.2.2.1 x hx).1 (h.2.2.1 x hx).2).2 ((h.2.2.2 x.1 x.2 (h.2.2.1 x hx).1 (h.2.2.1 x hx).2).1 hx), fun hx => (h.2.2.2 x.1 x.2 (h'.2.2.1 x hx).1 (h'.2.2.1 x hx).2).2 ((h'.2.2.2 x.1 x.2 (h'.2.2.1 x hx).1 (h'.2.2.1 x hx).2).1 hx)⟩

theorem vAt_snoc_lt (l : List Vr) (x : Vr) {i : Nat} (h : i < l.length) : vAt (l ++ [x]) i = vAt l i := by simp [vAt, List.getElem?_append_left h]
theorem vAt_snoc_eq (l : List Vr) (x : Vr) : vAt (l ++ [x]) l.length = x := by simp [vAt]

theorem versOk_snoc {l : List Vr} {h v : Int} (hl : versOk l ∨ l = []) (hlast : lastO l < h) (h1 : 1 ≤ h) (h2 : h ≤ 1000000) (hlen : l.length < 200) : versOk (l ++ [(h, v)]) := by
  refine ⟨by simp, by simp; omega, fun k hk => ?_⟩
  by_cases e : k = l.length
  · subst e
    rw [verOk, vAt_snoc_eq]
    refine ⟨h1, h2, fun hp => ?_⟩
    rw [vAt_snoc_lt _ _ (by omega)]
    rw [lastO, if_neg (by omega)] at hlast
    exact hlast
  · have hk' : k < l.length := by simp at hk; omega
    rcases hl with hl | rfl
    · have := hl.2.2 k hk'
      unfold verOk at this ⊢
      rw [vAt_snoc_lt _ _ hk']
      refine ⟨this.1, this.2.1, fun hp => ?_⟩
      rw [vAt_snoc_lt _ _ (by omega)]
      exact this.2.2 hp
    · simp at hk'

theorem lv_row {r : List Rw} : ∀ {k i : Nat}, i < k → ∃ v, lv r k (rAt r i).t (rAt r i).r = some v
  | 0, i, h => absurd h (Nat.not_lt_zero _)
  | k + 1, i, h => by
    by_cases e : (rAt r k).t = (rAt r i).t ∧ (rAt r k).r = (rAt r i).r
    · exact ⟨(rAt r k).v, by simp [lv, e.1, e.2]⟩
    · have hik : i < k := by
        by_cases hh : i < k
        · exact hh
        · have : i = k := by omega
          subst this
          exact absurd ⟨rfl, rfl⟩ e
      obtain ⟨v, hv⟩ := lv_row (r := r) hik
      refine ⟨v, ?_⟩
      rw [lv]
      first
        | (rw [if_neg e]; exact hv)
        | (rw [if_neg (fun h => e ⟨h.1.symm, h.2.symm⟩)]; exact hv)

theorem hour_iff (h : Int) : hourB h = true ↔ 0 ≤ h ∧ h ≤ 1000000 := by simp [hourB]

theorem inst_same {l : List Ch} {h : Int} {r : List Rw} {ks : List (Int × Int)} (hw : WfCh l) (hwr : WfRw r) (hk : InstKeys l r ks) :
    (SArgs l h r ∧ storeOk (chainsOf ks (instL l h r))) ↔ (Args l h r ∧ ks.length ≤ 200) := by
  constructor
  · rintro ⟨⟨hs, h1, hh, hrow⟩, hL⟩
    have hlen : ks.length ≤ 200 := by have := hL.1; rwa [chainsOf_length] at this
    refine ⟨⟨hs, hh, by omega, fun t r' ht hr v hv => ?_⟩, hlen⟩
    obtain ⟨i, hi, e1, e2⟩ := lv_some hv
    have := hrow i hi
    rw [e1, e2] at this
    refine ⟨this.1, this.2, ?_⟩
    have hmem : (t, r') ∈ ks := (hk.2.2.2 t r' ht hr).2 (.inr (by rw [hv]; rfl))
    obtain ⟨j, hj, ej⟩ := List.getElem_of_mem hmem
    have hc := (hL.2 j (by rw [chainsOf_length]; exact hj)).2.2.2.1
    rw [chainsOf_at ks _ hj] at hc
    have ev : vAt ks j = (t, r') := by simp [vAt, hj, ej]
    rw [ev] at hc
    dsimp only at hc
    rw [instL, hv] at hc
    simp at hc
    omega
  · rintro ⟨⟨hs, hh, h0, hf⟩, hlen⟩
    have hhr := (hour_iff h).1 hh
    refine ⟨⟨hs, by omega, hh, fun i hi => ?_⟩, by rw [chainsOf_length]; exact hlen, fun i hi => ?_⟩
    · obtain ⟨v, hv⟩ := lv_row (r := r) hi
      have := hf _ _ (hwr i hi).1 (hwr i hi).2 v hv
      exact ⟨this.1, this.2.1⟩
    · rw [chainsOf_length] at hi
      have hmem : vAt ks i ∈ ks := by simp [vAt, hi]
      have hwf := hk.2.2.1 _ hmem
      have hwhy := (hk.2.2.2 (vAt ks i).1 (vAt ks i).2 hwf.1 hwf.2).1 hmem
      unfold chainOk
      rw [chainsOf_at ks _ hi]
      dsimp only
      have hold : ∀ j, j < l.length → km l j (vAt ks i).1 (vAt ks i).2 → tabB (vAt ks i).1 = true ∧ versOk (listAt l (vAt ks i).1 (vAt ks i).2) := fun j hj hkm => by
        rw [listAt_is hs hj hkm]
        have := hs.2 j hj
        exact ⟨by rw [← hkm.1]; exact this.1, this.2.2⟩
      refine ⟨?_, fun hp => ?_, ?_⟩
      · rcases hwhy with ⟨j, hj, hkm⟩ | hsome
        · exact (hold j hj hkm).1
        · obtain ⟨v, hv⟩ := Option.isSome_iff_exists.1 hsome
          exact (hf _ _ hwf.1 hwf.2 v hv).1
      · rw [chainsOf_at ks _ (by omega)]
        dsimp only
        have hpw := List.pairwise_iff_getElem.1 hk.2.1 (i - 1) i (by omega) hi (by omega)
        have a1 : vAt ks (i - 1) = ks[i - 1] := by simp [vAt, show i - 1 < ks.length by omega]
        have a2 : vAt ks i = ks[i] := by simp [vAt, hi]
        rw [a1, a2]
        exact hpw
      · rw [instL]
        cases hv : lv r r.length (vAt ks i).1 (vAt ks i).2 with
        | none =>
          rw [hv] at hwhy
          rcases hwhy with ⟨j, hj, hkm⟩ | hsome
          · simpa using (hold j hj hkm).2
          · simp at hsome
        | some v =>
          have hfi := hf _ _ hwf.1 hwf.2 v hv
          dsimp only
          refine versOk_snoc ?_ hfi.2.1 (by omega) (by omega) hfi.2.2
          by_cases hex : ∃ j, j < l.length ∧ km l j (vAt ks i).1 (vAt ks i).2
          · obtain ⟨j, hj, hkm⟩ := hex
            exact .inl (hold j hj hkm).2
          · exact .inr (listAt_none fun j hj hkm => hex ⟨j, hj, hkm⟩)

/-- What Install answers, one way for both. -/
def InOk (l : List Ch) (h : Int) (r : List Rw) : Prop := Args l h r ∧ ∀ ks, InstKeys l r ks → ks.length ≤ 200
def InAns (l : List Ch) (h : Int) (r : List Rw) (out : List Ch) (b : Bool) : Prop := (¬ InOk l h r ∧ out = [] ∧ b = false) ∨ (InOk l h r ∧ b = true ∧ ∃ ks, InstKeys l r ks ∧ out = chainsOf ks (instL l h r))
theorem InAns.one {l : List Ch} {h : Int} {r : List Rw} {a a' : List Ch} {b b' : Bool} (ha : InAns l h r a b) (hb : InAns l h r a' b') : a = a' ∧ b = b' := by
  rcases ha with ⟨h1, rfl, rfl⟩ | ⟨h1, rfl, ks, hk, rfl⟩ <;> rcases hb with ⟨g1, rfl, rfl⟩ | ⟨g1, rfl, ks', hk', rfl⟩
  · exact ⟨rfl, rfl⟩
  · exact absurd g1 h1
  · exact absurd h1 g1
  · rw [instKeys_one hk hk']; exact ⟨rfl, rfl⟩
theorem InAns.small {l : List Ch} {h : Int} {r : List Rw} {a : List Ch} {b : Bool} (ha : InAns l h r a b) : Small a := by
  rcases ha with ⟨h1, rfl, rfl⟩ | ⟨h1, rfl, ks, hk, rfl⟩
  · exact ⟨Nat.zero_le _, fun i hi => absurd hi (Nat.not_lt_zero _)⟩
  · have hlen := h1.2 ks hk
    refine ⟨by rw [chainsOf_length]; omega, fun i hi => ?_⟩
    rw [chainsOf_length] at hi
    rw [chainsOf_at ks _ hi]
    show (instL _ _ _ _ _).length ≤ _
    have hs := h1.1.1
    have hl : (listAt l (vAt ks i).1 (vAt ks i).2).length ≤ 200 := by
      by_cases hex : ∃ j, j < l.length ∧ km l j (vAt ks i).1 (vAt ks i).2
      · obtain ⟨j, hj, hkm⟩ := hex
        rw [listAt_is hs hj hkm]
        exact (hs.2 j hj).2.2.2.1
      · rw [listAt_none fun j hj hkm => hex ⟨j, hj, hkm⟩]
        simp
    unfold instL
    rw [List.length_append]
    cases lv r r.length (vAt ks i).1 (vAt ks i).2 <;> simp <;> omega

theorem sargs_of_args {l : List Ch} {h : Int} {r : List Rw} (hwr : WfRw r) (ha : Args l h r) : SArgs l h r := by
  obtain ⟨hs, hh, h0, hf⟩ := ha
  have hhr := (hour_iff h).1 hh
  refine ⟨hs, by omega, hh, fun i hi => ?_⟩
  obtain ⟨v, hv⟩ := lv_row (r := r) hi
  have := hf _ _ (hwr i hi).1 (hwr i hi).2 v hv
  exact ⟨this.1, this.2.1⟩

/-- An answer in memory. -/
def InA (lo : Nat) (w' : World) (l : List Ch) (h : Int) (r : List Rw) (e : Ending) : Prop := ∃ a n c out b, e = .returned (.tuple #[.agg #[.slice a n c], .bool b]) ∧ OwnS lo w' (.slice a n c) out ∧ InAns l h r out b

theorem ownS_form {lo : Nat} {w : World} {v : Value} {l : List Ch} (h : OwnS lo w v l) : ∃ a n c, v = .slice a n c := by
  rcases h with ⟨rfl, _⟩ | ⟨b, Bs, cap, rfl, _⟩
  · exact ⟨_, _, _, rfl⟩
  · exact ⟨_, _, _, rfl⟩

theorem IAns.inA {lo : Nat} {w' : World} {l : List Ch} {h : Int} {r : List Rw} {e : Ending} (ha : IAns lo w' l h r e) : InA lo w' l h r e := by
  rcases ha with ⟨h1, rfl⟩ | ⟨h1, n, ks, hk, rfl, hn, rfl⟩ | ⟨h1, ks, v', hk, hn, rfl, ho⟩
  · exact ⟨_, _, _, [], false, rfl, .inl ⟨rfl, rfl⟩, .inl ⟨fun h => h1 h.1, rfl, rfl⟩⟩
  · exact ⟨_, _, _, [], false, rfl, .inl ⟨rfl, rfl⟩, .inl ⟨fun h => by have := h.2 ks hk; omega, rfl, rfl⟩⟩
  · obtain ⟨a, n, c, rfl⟩ := ownS_form ho
    exact ⟨_, _, _, _, true, rfl, ho, .inr ⟨⟨h1, fun ks' hk' => by rw [instKeys_one hk' hk]; exact hn⟩, rfl, ks, hk, rfl⟩⟩

theorem ISAns.inA {lo : Nat} {w' : World} {l : List Ch} {h : Int} {r : List Rw} {e : Ending} (hw : WfCh l) (hwr : WfRw r) (ha : ISAns lo w' l h r e) : InA lo w' l h r e := by
  rcases ha with ⟨h1, rfl⟩ | ⟨h1, L, hP, hL⟩
  · exact ⟨_, _, _, [], false, rfl, .inl ⟨rfl, rfl⟩, .inl ⟨fun h => h1 (sargs_of_args hwr h.1), rfl, rfl⟩⟩
  · obtain ⟨hk, hLe⟩ := Puts.done h1.1 hw hwr hP
    have hsame := inst_same (h := h) hw hwr hk
    rw [← hLe] at hsame
    rcases hL with ⟨h2, rfl⟩ | ⟨h2, v', rfl, ho⟩
    · exact ⟨_, _, _, [], false, rfl, .inl ⟨rfl, rfl⟩, .inl ⟨fun h => h2 (hsame.2 ⟨h.1, h.2 _ hk⟩).2, rfl, rfl⟩⟩
    · obtain ⟨h3, h4⟩ := hsame.1 ⟨h1, h2⟩
      obtain ⟨a, n, c, rfl⟩ := ownS_form ho
      exact ⟨_, _, _, L, true, rfl, ho, .inr ⟨⟨h3, fun ks' hk' => by rw [instKeys_one hk' hk]; exact h4⟩, rfl, _, hk, hLe⟩⟩

end Go.Proofs.Ytifdfelpbonckaa
