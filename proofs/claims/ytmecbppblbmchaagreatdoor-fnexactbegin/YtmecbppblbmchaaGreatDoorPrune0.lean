import Derived.Test.YtmecbppblbmchaaGreatDoorStoreOf3
import Derived.Test.YtmecbppblbmchaaGreatDoorRead
/- Pruned lists and stores: what both Prune functions are to answer. -/
namespace Go.Proofs.YtmecbppblbmchaaGreatDoor
open Go.ChangeShapes Go.WideShapes Go.ChangeAt Go.RowKit Go.Maps Go.Sort
set_option linter.unusedVariables false
set_option maxRecDepth 100000

/-- How many versions stand ahead of the first one that is later than h. -/
def un : List Vr → Int → Nat
  | [], _ => 0
  | x :: l, h => if x.1 ≤ h then un l h + 1 else 0
theorem un_is : ∀ (l : List Vr) (h : Int), IsUntil l h (un l h)
  | [], h => ⟨Nat.le_refl _, fun j hj => absurd hj (Nat.not_lt_zero _), fun hj => absurd hj (Nat.not_lt_zero _)⟩
  | x :: l, h => by
    obtain ⟨h1, h2, h3⟩ := un_is l h
    by_cases hx : x.1 ≤ h
    · simp only [un, if_pos hx]
      refine ⟨by simpa using h1, fun j hj => ?_, fun hj => ?_⟩
      · cases j with
        | zero => simpa [vAt] using hx
        | succ j => simpa [vAt] using h2 j (by omega)
      · simpa [vAt] using h3 (by simpa using hj)
    · simp only [un, if_neg hx]
      exact ⟨Nat.zero_le _, fun j hj => absurd hj (Nat.not_lt_zero _), fun _ => by simpa [vAt] using hx⟩

/-- What is left of a list: from the last version that is not later than h on. -/
def prL (l : List Vr) (h : Int) : List Vr := l.drop (un l h - 1)
def prune (l : List Ch) (h : Int) : List Ch := l.map fun c => ⟨c.t, c.r, prL c.l h⟩
theorem prune_length (l : List Ch) (h : Int) : (prune l h).length = l.length := by simp [prune]
theorem prune_at (l : List Ch) (h : Int) {i : Nat} (hi : i < l.length) : cAt (prune l h) i = ⟨(cAt l i).t, (cAt l i).r, prL (cAt l i).l h⟩ := by
  simp [prune, cAt, List.getD, List.getElem?_map, List.getElem?_eq_getElem hi]
theorem prL_length (l : List Vr) (h : Int) : (prL l h).length = l.length - (un l h - 1) := by simp [prL]
theorem prL_at (l : List Vr) (h : Int) (i : Nat) : vAt (prL l h) i = vAt l (un l h - 1 + i) := by
  simp [prL, vAt, List.getD, List.getElem?_drop]

theorem cAt_mem {l : List Ch} {i : Nat} (hi : i < l.length) : cAt l i ∈ l := by simp [cAt, List.getD, List.getElem?_eq_getElem hi]
theorem mem_cAt {l : List Ch} {c : Ch} (h : c ∈ l) : ∃ i, i < l.length ∧ cAt l i = c := by
  obtain ⟨i, hi, e⟩ := List.mem_iff_getElem.1 h
  exact ⟨i, hi, by simp [cAt, List.getD, List.getElem?_eq_getElem hi, e]⟩

/-- Two lists of keys, each strictly sorted, with the same keys, are one list. -/
theorem sorted_one : ∀ {a b : List (Int × Int)}, (a.Pairwise fun x y => klB x.1 x.2 y.1 y.2 = true) → (b.Pairwise fun x y => klB x.1 x.2 y.1 y.2 = true) → (∀ x, x ∈ a ↔ x ∈ b) → a = b
  | [], [], _, _, _ => rfl
  | [], y :: b, _, _, h => absurd ((h y).2 (List.mem_cons_self ..)) (List.not_mem_nil)
  | x :: a, [], _, _, h => absurd ((h x).1 (List.mem_cons_self ..)) (List.not_mem_nil)
  | x :: a, y :: b, ha, hb, h => by
    obtain ⟨ha1, ha2⟩ := List.pairwise_cons.1 ha
    obtain ⟨hb1, hb2⟩ := List.pairwise_cons.1 hb
    have irr : ∀ {p q : Int × Int}, klB p.1 p.2 q.1 q.2 = true → klB q.1 q.2 p.1 p.2 = true → False := fun {p q} h1 h2 => by rw [klB_iff] at h1 h2; omega
    have exy : x = y := by
      rcases List.mem_cons.1 ((h x).1 (List.mem_cons_self ..)) with e | hx
      · exact e
      · rcases List.mem_cons.1 ((h y).2 (List.mem_cons_self ..)) with e | hy
        · exact e.symm
        · exact (irr (hb1 x hx) (ha1 y hy)).elim
    subst exy
    have hm : ∀ z, z ∈ a ↔ z ∈ b := fun z => by
      constructor
      · intro hz
        rcases List.mem_cons.1 ((h z).1 (List.mem_cons_of_mem _ hz)) with e | h'
        · subst e; exact (irr (ha1 z hz) (ha1 z hz)).elim
        · exact h'
      · intro hz
        rcases List.mem_cons.1 ((h z).2 (List.mem_cons_of_mem _ hz)) with e | h'
        · subst e; exact (irr (hb1 z hz) (hb1 z hz)).elim
        · exact h'
    rw [sorted_one ha2 hb2 hm]

/-- The keys of a store. -/
def keysOf (l : List Ch) : List (Int × Int) := l.map fun c => (c.t, c.r)
theorem keysOf_mem {l : List Ch} {t r : Int} : (t, r) ∈ keysOf l ↔ ∃ i, i < l.length ∧ km l i t r := by
  constructor
  · intro h
    obtain ⟨c, hc, e⟩ := List.mem_map.1 h
    obtain ⟨i, hi, ec⟩ := mem_cAt hc
    cases e
    exact ⟨i, hi, by rw [km, ec]; exact ⟨rfl, rfl⟩⟩
  · rintro ⟨i, hi, h1, h2⟩
    exact List.mem_map.2 ⟨cAt l i, cAt_mem hi, by rw [h1, h2]⟩
theorem keysOf_sorted {l : List Ch} (h : storeOk l) : (keysOf l).Pairwise fun x y => klB x.1 x.2 y.1 y.2 = true := by
  rw [List.pairwise_iff_getElem]
  intro i j hi hj hij
  have hi' : i < l.length := by simpa [keysOf] using hi
  have hj' : j < l.length := by simpa [keysOf] using hj
  have := keys_up h i (j - i - 1) (by omega)
  rw [show i + (j - i - 1) + 1 = j by omega] at this
  simpa [keysOf, cAt, List.getD, List.getElem?_eq_getElem hi', List.getElem?_eq_getElem hj'] using this

/-- The list that a store has at a key. -/
def listAt (l : List Ch) (t r : Int) : List Vr := match l.find? (fun c => decide (c.t = t ∧ c.r = r)) with | some c => c.l | none => []
theorem listAt_is {l : List Ch} (h : storeOk l) {i : Nat} (hi : i < l.length) {t r : Int} (hk : km l i t r) : listAt l t r = (cAt l i).l := by
  unfold listAt
  cases hf : l.find? (fun c => decide (c.t = t ∧ c.r = r)) with
  | none =>
    have := List.find?_eq_none.1 hf (cAt l i) (cAt_mem hi)
    simp at this
    exact absurd hk.2 (this hk.1)
  | some c =>
    have h1 := List.find?_some hf
    simp at h1
    obtain ⟨j, hj, e⟩ := mem_cAt (List.mem_of_find?_eq_some hf)
    have : km l j t r := by rw [km, e]; exact h1
    obtain rfl := keys_one h hi hj hk this
    rw [e]

/-- While chains are pruned one after another: the first k are. -/
def PMap (lo hi : Nat) (w : World) (l : List Ch) (h : Int) (k : Nat) (f : Int → Int → Option Value) : Prop :=
  ∀ t r, (f t r = none ∧ ∀ i, i < l.length → ¬ km l i t r) ∨ ∃ i, i < l.length ∧ km l i t r ∧ ∃ v, f t r = some v ∧ VersAt lo hi w v (if i < k then prL (cAt l i).l h else (cAt l i).l)

theorem PMap.start {lo hi : Nat} {w : World} {l : List Ch} {f : Int → Int → Option Value} (h : Int) (hb : ByKey lo hi w l l.length f) : PMap lo hi w l h 0 f := by
  intro t r
  rcases hb t r with h1 | ⟨i, h1, h2, h3, a, c, h4, h5⟩
  · exact .inl h1
  · exact .inr ⟨i, h1, h2, _, h4, h5⟩

theorem PMap.step {lo hi : Nat} {w : World} {l : List Ch} {h : Int} {k : Nat} {f : Int → Int → Option Value} (hp : PMap lo hi w l h k f) (hk : k < l.length) {v : Value} (hv : VersAt lo hi w v (prL (cAt l k).l h)) :
    PMap lo hi w l h (k + 1) (put2 f (cAt l k).t (cAt l k).r v) := by
  intro t r
  by_cases e : km l k t r
  · obtain ⟨rfl, rfl⟩ := e
    exact .inr ⟨k, hk, ⟨rfl, rfl⟩, v, by simp [put2], by rw [if_pos (by omega)]; exact hv⟩
  · have e' : ¬ (t = (cAt l k).t ∧ r = (cAt l k).r) := fun e2 => e ⟨e2.1.symm, e2.2.symm⟩
    rcases hp t r with ⟨h1, h2⟩ | ⟨i, h1, h2, v', h4, h5⟩
    · exact .inl ⟨by simp [put2, e', h1], h2⟩
    · have hik : i ≠ k := fun e2 => e (by subst e2; exact h2)
      refine .inr ⟨i, h1, h2, v', by simp [put2, e', h4], ?_⟩
      by_cases hlt : i < k
      · rw [if_pos hlt] at h5; rw [if_pos (by omega)]; exact h5
      · rw [if_neg hlt] at h5; rw [if_neg (by omega)]; exact h5

/-- Behind the last one: the map's chains, by their keys, are the pruned store. -/
theorem PMap.done {lo hi : Nat} {w : World} {l : List Ch} {h : Int} {f : Int → Int → Option Value} (hs : storeOk l) (hw : WfCh l) (hp : PMap lo hi w l h l.length f) {ks : List (Int × Int)} (hk : KeysAre f ks) (hq : ks.Pairwise fun x y => klB x.1 x.2 y.1 y.2 = true) :
    chainsOf ks (fun t r => prL (listAt l t r) h) = prune l h := by
  have hks : ks = keysOf l := by
    refine sorted_one hq (keysOf_sorted hs) fun x => ?_
    constructor
    · intro hx
      have wx := hk.2.1 x hx
      have := (hk.2.2 x.1 x.2 wx.1 wx.2).1 hx
      rcases hp x.1 x.2 with ⟨h1, _⟩ | ⟨i, h1, h2, _⟩
      · rw [h1] at this; cases this
      · exact keysOf_mem.2 ⟨i, h1, h2⟩
    · intro hx
      obtain ⟨i, hi, hkm⟩ := keysOf_mem.1 (show (x.1, x.2) ∈ keysOf l from hx)
      have wx := hw i hi
      rw [hkm.1, hkm.2] at wx
      refine (hk.2.2 x.1 x.2 wx.1 wx.2).2 ?_
      rcases hp x.1 x.2 with ⟨_, h2⟩ | ⟨_, _, _, v, h4, _⟩
      · exact absurd hkm (h2 i hi)
      · rw [h4]; rfl
  rw [hks, chainsOf, prune, keysOf, List.map_map]
  apply List.map_congr_left
  intro c hc
  obtain ⟨i, hi, e⟩ := mem_cAt hc
  have : listAt l c.t c.r = c.l := by rw [listAt_is hs hi (t := c.t) (r := c.r) (by rw [km, e]; exact ⟨rfl, rfl⟩), e]
  simp [this]

end Go.Proofs.YtmecbppblbmchaaGreatDoor
