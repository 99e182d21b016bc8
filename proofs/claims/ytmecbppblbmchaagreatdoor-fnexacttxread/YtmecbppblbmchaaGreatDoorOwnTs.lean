import Derived.Test.YtmecbppblbmchaaGreatDoorKeysIt
import Derived.Test.YtmecbppblbmchaaGreatDoorStoreOf2
import Derived.Test.YtmecbppblbmchaaGreatDoorRead
/- Stores that a call has made: read, kept, marked and held. -/
namespace Go.Proofs.YtmecbppblbmchaaGreatDoor
open Go.ChangeShapes Go.WideShapes Go.ChangeAt Go.RowKit Go.Sort
set_option linter.unusedVariables false
set_option maxRecDepth 100000
attribute [local go_sem ↓] Go.wp_at_zero Go.wp_at_succ

theorem OwnS.chains {lo : Nat} {w : World} {v : Value} {l : List Ch} (h : OwnS lo w v l) (hn : Small l) : ChainsAt lo w.heap.size w v l := by
  rcases h with ⟨rfl, rfl⟩ | ⟨b, Bs, cap, rfl, ho⟩
  · exact ⟨none, 0, rfl, Nat.zero_le _, fun hp => absurd hp (Nat.lt_irrefl _)⟩
  · exact ho.chains hn
theorem OwnS.stays {lo : Nat} {w w' : World} {v : Value} {l : List Ch} (h : OwnS lo w v l) (hb : Below w.heap.size w w') : OwnS lo w' v l := by
  rcases h with h | ⟨b, Bs, cap, h, ho⟩
  · exact .inl h
  · exact .inr ⟨b, Bs, cap, h, (ho.stays hb).wide (Nat.le_refl _) hb.size⟩
/-- The same in a world that has turned below lo only. -/
theorem OwnS.keep {lo : Nat} {w w' : World} {v : Value} {l : List Ch} (h : OwnS lo w v l) (hs : ∀ k, lo ≤ k → k < w.heap.size → w'.heap[k]? = w.heap[k]?) (hz : w.heap.size ≤ w'.heap.size) : OwnS lo w' v l := by
  rcases h with h | ⟨b, Bs, cap, h, ho⟩
  · exact .inl h
  · exact .inr ⟨b, Bs, cap, h, (ho.keep fun k h1 h2 h3 => hs k h1 h3).wide (Nat.le_refl _) hz⟩

/-- As OwnS, in blocks ahead of hi. -/
def OwnT (lo hi : Nat) (w : World) (v : Value) (l : List Ch) : Prop := (v = .slice none 0 0 ∧ l = []) ∨ ∃ b Bs cap, v = .slice (some ⟨b, 0, none⟩) l.length cap ∧ OwnC lo hi w b Bs l
theorem OwnT.chains {lo hi : Nat} {w : World} {v : Value} {l : List Ch} (h : OwnT lo hi w v l) (hn : Small l) : ChainsAt lo hi w v l := by
  rcases h with ⟨rfl, rfl⟩ | ⟨b, Bs, cap, rfl, ho⟩
  · exact ⟨none, 0, rfl, Nat.zero_le _, fun hp => absurd hp (Nat.lt_irrefl _)⟩
  · exact ho.chains hn
theorem OwnT.keep {lo hi : Nat} {w w' : World} {v : Value} {l : List Ch} (h : OwnT lo hi w v l) (hs : ∀ k, lo ≤ k → k < hi → k < w.heap.size → w'.heap[k]? = w.heap[k]?) : OwnT lo hi w' v l := by
  rcases h with h | ⟨b, Bs, cap, h, ho⟩
  · exact .inl h
  · exact .inr ⟨b, Bs, cap, h, ho.keep hs⟩
theorem OwnT.stays {lo hi : Nat} {w w' : World} {v : Value} {l : List Ch} (h : OwnT lo hi w v l) (hb : Below w.heap.size w w') : OwnT lo hi w' v l := h.keep fun k _ _ hk => hb.block k hk

theorem MarkedC.stays {lo hi : Nat} {w w' : World} {b : Nat} {Bs : Nat → Nat} {l : List Ch} {k n : Nat} (h : MarkedC lo hi w b Bs l k n) (hb : Below w.heap.size w w') : MarkedC lo hi w' b Bs l k n := by
  obtain ⟨f, h1, h2⟩ := h
  refine ⟨f, h1.of_block (hb.block _ h1.lt), fun i hi' => ?_⟩
  obtain ⟨g1, g, g2, g3⟩ := h2 i hi'
  exact ⟨g1, g, g2.of_block (hb.block _ g2.lt), g3⟩
def MarkedT (w : World) (v : Value) (l : List Ch) : Prop := (v = .slice none 0 0 ∧ l = []) ∨ ∃ lo hi b Bs cap, v = .slice (some ⟨b, 0, none⟩) l.length cap ∧ MarkedC lo hi w b Bs l 1 l.length
theorem MarkedT.stays {w w' : World} {v : Value} {l : List Ch} (h : MarkedT w v l) (hb : Below w.heap.size w w') : MarkedT w' v l := by
  rcases h with h | ⟨lo, hi, b, Bs, cap, h, hm⟩
  · exact .inl h
  · exact .inr ⟨lo, hi, b, Bs, cap, h, hm.stays hb⟩

theorem markT_any (v : Value) (l : List Ch) (w : World) {lo hi : Nat} (h : OwnT lo hi w v l) (hn : Small l) (hhi : hi ≤ w.heap.size) :
    Calls Tryz.prog 39 #[.agg #[v], .int .i64 1] w fun e w' => e = .returned (.int .i64 ((1 + mk l l.length : Nat) : Int)) ∧ (∀ x, ¬ (lo ≤ x ∧ x < hi) → x < w.heap.size → w'.heap[x]? = w.heap[x]?) ∧ w'.os = w.os ∧ w'.tape = w.tape ∧ w'.output = w.output ∧ w.heap.size ≤ w'.heap.size ∧ MarkedT w' v l := by
  rcases h with ⟨rfl, rfl⟩ | ⟨b, Bs, cap, rfl, ho⟩
  · refine (markStore_nil 1 w).mono ?_
    rintro e w' ⟨rfl, hb⟩
    exact ⟨rfl, fun x _ hx => hb.block x hx, hb.os, hb.tape, hb.output, hb.size, .inl ⟨rfl, rfl⟩⟩
  · refine (markStore_any b Bs l cap 1 w ho hn (by omega) hhi).mono ?_
    rintro e w' ⟨rfl, h1, h2, h3, h4, h5, h6⟩
    exact ⟨rfl, h1, h2, h3, h4, h5, .inr ⟨_, _, b, Bs, cap, rfl, h6⟩⟩
theorem heldT_any (v : Value) (l : List Ch) (w : World) (h : MarkedT w v l) (hn : Small l) :
    Calls Tryz.prog 42 #[.agg #[v], .int .i64 1] w fun e w' => e = .returned (.int .i64 ((1 + mk l l.length : Nat) : Int)) ∧ Below w.heap.size w w' := by
  rcases h with ⟨rfl, rfl⟩ | ⟨lo, hi, b, Bs, cap, rfl, hm⟩
  · exact heldStore_nil 1 w
  · exact heldStore_any b Bs l cap 1 w (fun o => hm.stays (below_alloc w o)) hn (by omega)

end Go.Proofs.YtmecbppblbmchaaGreatDoor
