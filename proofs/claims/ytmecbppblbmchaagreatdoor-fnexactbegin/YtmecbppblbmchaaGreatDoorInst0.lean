import Derived.Test.YtmecbppblbmchaaGreatDoorSorted
import Derived.Test.YtmecbppblbmchaaGreatDoorPrune0
import Derived.Sort.KeysCollected
/- How many keys a map has: as many as are listed. -/
namespace Go.Proofs.YtmecbppblbmchaaGreatDoor
open Go.ChangeShapes Go.WideShapes Go.ChangeAt Go.RowKit Go.Sort Go.Maps
set_option linter.unusedVariables false
set_option maxRecDepth 100000

theorem keys_ex {w : World} {b n : Nat} {D : DataW Value} {f : Int → Int → Option Value} (h : w.ownsMap Tryz.prog 46 KV b n D) (ha : At D f) : ∃ ks, KeysAre f ks ∧ ks.length = Maps.size D := by
  obtain ⟨es, e1, hk⟩ := h.keysOf
  obtain ⟨es', e2, hp⟩ := h.tidy mlaw
  subst e1
  obtain rfl : es = es' := by injection e2
  have key : ∀ es : List (Lit × DataW Value), (∀ p ∈ es, KeysOf Tryz.prog 46 p.1) → ∃ ks : List (Int × Int), ks.map (fun x => klit x.1 x.2) = es.map (·.1) ∧ ∀ x ∈ ks, wf x.1 ∧ wf x.2 := fun es => by
    induction es with
    | nil => exact fun _ => ⟨[], rfl, by simp⟩
    | cons p es ih =>
      intro hk
      obtain ⟨ks, h1, h2⟩ := ih fun q hq => hk q (List.mem_cons_of_mem _ hq)
      obtain ⟨v, hv⟩ := hk p (List.mem_cons_self ..)
      obtain ⟨x, rfl, w0, w1⟩ := key_inv hv
      rw [encK, key_is w0 w1] at hv
      refine ⟨x :: ks, by rw [List.map_cons, List.map_cons, h1, Option.some.inj hv], fun y hy => ?_⟩
      rcases List.mem_cons.1 hy with rfl | hy
      · exact ⟨w0, w1⟩
      · exact h2 y hy
  obtain ⟨ks, hks, hwf⟩ := key es hk
  have hmem : ∀ t r, wf t → wf r → ((t, r) ∈ ks ↔ Maps.has (.map es : DataW Value) (klit t r) = true) := fun t r ht hr => by
    rw [has_eq, List.any_eq_true]
    constructor
    · intro hm
      have : klit t r ∈ es.map (·.1) := by rw [← hks]; exact List.mem_map.2 ⟨(t, r), hm, rfl⟩
      obtain ⟨p, hp, e⟩ := List.mem_map.1 this
      exact ⟨p, hp, by rw [e]; simp [klit, Lit.sameKey]⟩
    · rintro ⟨p, hp, e⟩
      have e' : p.1 = klit t r := by
        by_cases hc : p.1 = klit t r
        · exact hc
        · rw [sameKey_ne hc] at e; cases e
      have : klit t r ∈ ks.map (fun x => klit x.1 x.2) := by rw [hks]; exact List.mem_map.2 ⟨p, hp, e'⟩
      obtain ⟨x, hx, ex⟩ := List.mem_map.1 this
      obtain ⟨w0, w1⟩ := hwf x hx
      obtain ⟨a, b⟩ := klit_inj w0 w1 ht hr ex
      have : x = (t, r) := Prod.ext a b
      exact this ▸ hx
  refine ⟨ks, ⟨?_, hwf, fun t r ht hr => ?_⟩, ?_⟩
  · have h1 : (ks.map (fun x => klit x.1 x.2)).Pairwise (· ≠ ·) := by rw [hks]; exact List.pairwise_map.2 hp
    exact (List.pairwise_map.1 h1).imp (S := (· ≠ ·)) fun h e => h (by rw [e])
  · rw [hmem t r ht hr]
    cases hf : f t r with
    | none =>
      have := has_false_of_atKey (D := (.map es : DataW Value)) (k := klit t r) fun z => by rw [ha.2 t r ht hr z, hf]
      simp [this]
    | some v =>
      have := has_true_of_atKey (D := (.map es : DataW Value)) (k := klit t r) (y := .held v) fun z => by rw [ha.2 t r ht hr z, hf]
      simp [this]
  · rw [size_eq, ← List.length_map (f := fun x : Int × Int => klit x.1 x.2), hks, List.length_map]

theorem keys_len {f : Int → Int → Option Value} {ks ks' : List (Int × Int)} (h : KeysAre f ks) (h' : KeysAre f ks') : ks.length = ks'.length := by
  obtain ⟨h1, p1⟩ := srtK_keys h
  obtain ⟨h2, p2⟩ := srtK_keys h'
  have e : srtK ks = srtK ks' := sorted_one p1 p2 fun x => by
    constructor
    · intro hx
      obtain ⟨w0, w1⟩ := h1.2.1 x hx
      exact (h2.2.2 x.1 x.2 w0 w1).2 ((h1.2.2 x.1 x.2 w0 w1).1 hx)
    · intro hx
      obtain ⟨w0, w1⟩ := h2.2.1 x hx
      exact (h1.2.2 x.1 x.2 w0 w1).2 ((h2.2.2 x.1 x.2 w0 w1).1 hx)
  rw [← lenK ks, ← lenK ks', e]

end Go.Proofs.YtmecbppblbmchaaGreatDoor
