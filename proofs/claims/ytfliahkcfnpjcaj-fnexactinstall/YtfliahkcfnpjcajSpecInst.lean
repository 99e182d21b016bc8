/- spec.Install. -/
import Derived.Test.YtfliahkcfnpjcajSpecInst0
namespace Go.Proofs.Ytfliahkcfnpjcaj
open Go.ChangeShapes Go.WideShapes Go.ChangeAt Go.RowKit Go.Maps Go.Sort
set_option linter.unusedVariables false
set_option maxRecDepth 100000
attribute [local go_sem ↓] Go.wp_at_zero Go.wp_at_succ

theorem ownV_owns {base : Nat} {w : World} {g cap : Nat} {l : List Vr} (h : w.ownsRow base 72 2 (.slice (some ⟨g, 0, none⟩) l.length cap) l.length (vcells l)) : OwnV w g l ∧ l.length ≤ cap := by
  obtain ⟨h1, ⟨h2, h3⟩ | ⟨b, cap', cur, e, hb, hh, hcap, hm, hc, ht⟩⟩ := h
  · cases h2
  · cases e
    refine ⟨⟨fun j => (vcells l).getD j (.int .i64 0), ⟨cur, hh, by rw [hc]; omega, fun j hj => ?_⟩, fun i hi => ?_⟩, hcap⟩
    · have e : (cur.toList.take (l.length * 2))[j]? = (vcells l)[j]? := by rw [ht]
      rw [List.getElem?_take_of_lt hj, Array.getElem?_toList] at e
      rw [e]
      have hj' : j < (vcells l).length := by rw [vcells_length]; exact hj
      simp [List.getD, List.getElem?_eq_getElem hj']
    · obtain ⟨g1, g2⟩ := vcells_get l i hi
      simp [List.getD, g1, g2]

theorem OwnQ.ownS {base lo : Nat} {w : World} {ov : Value} {q : List Qc} (hlo : lo ≤ base) (h : OwnQ base w ov q) (hs : ∀ i, i < q.length → 0 < (qAt q i).1.l.length) : OwnS lo w ov (qchs q) := by
  have hlen := qchs_length q
  have form : ∀ i, i < q.length → ∃ g cap, (qAt q i).2 = .slice (some ⟨g, 0, none⟩) (qAt q i).1.l.length cap ∧ base ≤ g ∧ g < w.heap.size := fun i hi => by
    obtain ⟨g, cap, e, h1, h2⟩ := (h.lists i hi).form (hs i hi)
    exact ⟨g, cap, e, h1, h2⟩
  obtain ⟨h1, ⟨h2, h3⟩ | ⟨b, cap, cur, hv, hb, hh, hcap, hm, hc, ht⟩⟩ := h.row
  · exact .inl ⟨h2, List.eq_nil_of_length_eq_zero (by rw [hlen]; exact h3)⟩
  · have hbl : b < w.heap.size := (Array.getElem?_eq_some_iff.1 hh).1
    have bs : ∀ i, i < q.length → ∀ g cap, (qAt q i).2 = .slice (some ⟨g, 0, none⟩) (qAt q i).1.l.length cap → ((qAt q i).2.ownBlock).getD 0 = g := fun i hi g cap e => by rw [e]; rfl
    refine .inr ⟨b, fun i => ((qAt q i).2.ownBlock).getD 0, cap, by rw [hlen]; exact hv, by omega, hbl, fun j => (qcells q).getD j (.int .i64 0), ⟨cur, hh, by rw [hc, hlen]; omega, fun j hj => ?_⟩, fun i hi => ?_, fun i j hij hj => ?_⟩
    · rw [hlen] at hj
      have e : (cur.toList.take (q.length * 3))[j]? = (qcells q)[j]? := by rw [ht]
      rw [List.getElem?_take_of_lt hj, Array.getElem?_toList] at e
      rw [e]
      have hj' : j < (qcells q).length := by rw [qcells_length]; exact hj
      simp [List.getD, List.getElem?_eq_getElem hj']
    · rw [hlen] at hi
      obtain ⟨g, cp, e, g1, g2⟩ := form i hi
      obtain ⟨e1, e2, e3⟩ := qcells_get q i hi
      have hl := h.lists i hi
      rw [e] at hl
      obtain ⟨ov1, ov2⟩ := ownV_owns hl
      rw [qchs_at q hi]
      dsimp only
      rw [bs i hi g cp e]
      refine ⟨by simp [List.getD, e1], by simp [List.getD, e2], ⟨cp, ov2, by simp [List.getD, e3, e]⟩, ov1, by omega, g2, fun eb => ?_⟩
      exact (h.apart i hi g (by rw [e]; rfl)).1 (by rw [hv, eb]; rfl)
    · rw [hlen] at hj
      obtain ⟨g, cp, e, g1, g2⟩ := form i (by omega)
      obtain ⟨g', cp', e', g1', g2'⟩ := form j hj
      simp only [bs i (by omega) g cp e, bs j hj g' cp' e']
      intro eq
      exact (h.apart i (by omega) g (by rw [e]; rfl)).2 j hj (by omega) (by rw [e', eq]; rfl)

theorem isLastAt_lastO {l : List Ch} (hs : storeOk l) {t r x : Int} (h : IsLastAt l t r x) : x = lastO (listAt l t r) := by
  rcases h with ⟨rfl, hno⟩ | ⟨n, hn, hkm, _, rfl⟩
  · rw [listAt_none hno]; rfl
  · rw [listAt_is hs hn hkm, lastO, if_neg (by have := (hs.2 n hn).2.2.1; omega)]
    rfl

theorem l1last_is (v : Value) (l : List Ch) (t r : Int) (w : World) {lo hi : Nat} (hl : ChainsAt lo hi w v l) (hs : storeOk l) :
    Calls Try.prog 40 #[.agg #[v], .agg #[.int .i64 t, .int .i64 r]] w fun e w' => e = .returned (.int .i64 (lastO (listAt l t r))) ∧ Below w.heap.size w w' := by
  refine (l1last_any v l t r w hl hs).mono ?_
  rintro e w' ⟨x, rfl, hx, hb⟩
  rw [isLastAt_lastO hs hx]
  exact ⟨rfl, hb⟩

/-- What spec.Install asks of its arguments. -/
def SArgs (l : List Ch) (h : Int) (r : List Rw) : Prop := storeOk l ∧ 1 ≤ h ∧ hourB h = true ∧ ∀ i, i < r.length → tabB (rAt r i).t = true ∧ lastO (listAt l (rAt r i).t (rAt r i).r) < h

/-- What it answers. -/
def SAns (lo : Nat) (w' : World) (l : List Ch) (h : Int) (r : List Rw) (e : Ending) : Prop :=
  (¬ SArgs l h r ∧ e = .returned (.tuple #[.agg #[.slice none 0 0], .bool false])) ∨
  (SArgs l h r ∧ ∃ L, Puts l h (rowsL r r.length) (rowsL r r.length).length L ∧ ((¬ storeOk L ∧ e = .returned (.tuple #[.agg #[.slice none 0 0], .bool false])) ∨ (storeOk L ∧ ∃ v', e = .returned (.tuple #[.agg #[v'], .bool true]) ∧ OwnS lo w' v' L)))

theorem IsPut.length {l l' : List Ch} {t r : Int} {x : Vr} (h : IsPut l t r x l') : l'.length ≤ l.length + 1 := by
  rcases h with ⟨n, _, _, _, rfl⟩ | ⟨_, rfl⟩
  · simp
  · rw [bub_is, bubG_length]; simp
theorem Puts.length {l : List Ch} {h : Int} {R : List Rw} : ∀ {k : Nat} {L : List Ch}, Puts l h R k L → L.length ≤ l.length + k
  | 0, L, hp => by have : L = l := hp; subst this; exact Nat.le_refl _
  | k + 1, L, ⟨L0, hp, hput⟩ => by have := Puts.length hp; have := hput.length; omega

theorem Cont.lists {l : List Ch} (hs : storeOk l) {h : Int} {R : List Rw} {k : Nat} {L : List Ch} (hc : Cont l h R k L) {i : Nat} (hi : i < L.length) : 0 < (cAt L i).l.length ∧ (cAt L i).l.length ≤ 1048576 := by
  obtain ⟨c1, c2, c3⟩ := hc
  rw [c2 i hi, List.length_append]
  have hext : (extL R h k (cAt L i).t (cAt L i).r).length ≤ 1 := by unfold extL; split <;> simp
  by_cases hk : ∃ j, j < l.length ∧ km l j (cAt L i).t (cAt L i).r
  · obtain ⟨j, hj, hkm⟩ := hk
    rw [listAt_is hs hj hkm]
    have := (hs.2 j hj).2.2
    have h1 := this.1
    have h2 := this.2.1
    omega
  · rw [listAt_none (fun j hj hkm => hk ⟨j, hj, hkm⟩)]
    have := (c3 (cAt L i).t (cAt L i).r).1 ⟨i, hi, rfl, rfl⟩
    rcases this with h1 | h1
    · exact absurd h1 hk
    · obtain ⟨v, hv⟩ := Option.isSome_iff_exists.1 h1
      have : extL R h k (cAt L i).t (cAt L i).r = [(h, v)] := by unfold extL; rw [hv]
      rw [this]
      simp

end Go.Proofs.Ytfliahkcfnpjcaj
