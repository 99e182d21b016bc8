/- impl.PutVar; what is put among variables in order. -/
import Derived.Test.YtgnfiakbcogdlanV7
namespace Go.Proofs.Ytgnfiakbcogdlan
open Go.ChangeShapes Go.WideShapes Go.ChangeAt Go.RowKit Go.Maps Go.Deep Go.Joins Go.Sort Go.Shelf
set_option linter.unusedVariables false
set_option maxRecDepth 100000
attribute [local go_sem ↓] Go.wp_at_zero Go.wp_at_succ

theorem firstV_mem : ∀ {l : List Va} {s : ByteArray}, (firstV l s).isSome = true → ∃ x ∈ l, s = x.1
  | [], s, h => by simp [firstV] at h
  | x :: l, s, h => by
    simp only [firstV] at h
    by_cases e : s = x.1
    · exact ⟨x, List.mem_cons_self .., e⟩
    · rw [if_neg e] at h
      obtain ⟨y, hy, e'⟩ := firstV_mem h
      exact ⟨y, List.mem_cons_of_mem _ hy, e'⟩
theorem SmallV.mem {l : List Va} (h : SmallV l) {x : Va} (hx : x ∈ l) : x.1.size ≤ 1048576 := by
  obtain ⟨i, hi, rfl⟩ := List.getElem_of_mem hx
  rw [va_get hi]; exact h.2 i hi

/-- What PutVar answers. -/
def PVAns (base : Nat) (w' : World) (l : List Va) (s : ByteArray) (v : Int) (e : Ending) : Prop :=
  ∃ v' rs, e = .returned v' ∧ ((varsOk l ∧ VarsOf (putS (firstV l) s v) rs) ∨ (¬ varsOk l ∧ rs = [])) ∧ rs.length ≤ l.length + 1 ∧ w'.ownsRow base 79 2 v' rs.length (flatV rs)

set_option maxHeartbeats 1000000 in
theorem implPutVar_any (va : Value) (l : List Va) (s : ByteArray) (v : Int) (w : World) {lo hi : Nat} (h : VarsAt lo hi w va l) (hhi : hi ≤ w.heap.size) (hw : WfVa l) (hn : SmallV l) (hs : s.size ≤ 1048576) :
    Calls Try.prog 22 #[va, .string s, .int .i64 v] w fun e w' => PVAns w.heap.size w' l s v e ∧ Below w.heap.size w w' := by
  obtain ⟨a, cap, hv⟩ : ∃ a cap, va = .slice a l.length cap := by obtain ⟨a, cap, h1, _⟩ := h; exact ⟨a, cap, h1⟩
  subst hv
  have hlen := hn.1
  go_enter Try.func22, Try.ntmps22
  go_wp2_with fail
  refine (implVarsOk_any _ l _ h hn.1).mono ?_
  rintro e w1 ⟨⟨q, rfl, hq⟩, b1⟩
  by_cases hok : varsOk l
  · obtain rfl : q = true := hq.2 hok
    clear hq
    have hz1 := b1.size
    go_wp2_with fail
    refine (callsIn_wide.1 (variablesOf_in 4 (by omega) _ l _ (h.stays b1) (by omega) hw hn.1)).mono ?_
    rintro e w3 ⟨b, rfl, hM, hbb, hb3⟩
    have b3 := b1.trans (hb3.mono b1.size)
    clear hb3
    go_wp2_with fail
    refine (varsPut_own b _ _ s v _ hM (by omega) (by unfold maxLen; omega)).mono ?_
    rintro e w4 ⟨rfl, hM4, ht4⟩
    have b4 : Below w.heap.size w w4 := b3.grown ht4.grown b3.size (fun j hj => by cases hj; omega)
    clear hM
    go_wp2_with fail
    refine (varsList_own b _ _ _ hM4 (by omega) (fun s' hs' => ?_)).mono ?_
    · unfold putS at hs'
      by_cases e : s' = s
      · rw [e]; exact hs
      · rw [if_neg e] at hs'
        obtain ⟨x, hx, rfl⟩ := firstV_mem hs'
        exact hn.mem hx
    rintro e w5 ⟨v5, rs, rfl, hR, hrl, hown, hb5⟩
    go_wp2
    go_ret
    exact ⟨⟨_, rs, rfl, .inl ⟨hok, hR⟩, hrl, hown.mono b4.size⟩, b4.trans (hb5.mono b4.size)⟩
  · obtain rfl : q = false := says_false hq hok
    clear hq
    go_wp2
    go_ret
    exact ⟨⟨_, [], rfl, .inr ⟨hok, rfl⟩, Nat.zero_le _, World.ownsRow_nil _ _ _ _⟩, b1⟩

/-! ### What is put among variables -/

/-- One name is not behind another. -/
def leS (x y : ByteArray) : Bool := Op.bytesLess x.toList y.toList || x.toList == y.toList
theorem leS_not {x y : ByteArray} : leS x y = false ↔ ltS y x = true := by
  unfold leS
  rw [Bool.or_eq_false_iff]
  constructor
  · rintro ⟨h1, h2⟩
    refine Classical.byContradiction fun h3 => ?_
    have : x = y := ltS_tri (by unfold ltS; simp [h1]) h3
    subst this
    simp at h2
  · intro h
    refine ⟨?_, ?_⟩
    · cases hc : Op.bytesLess x.toList y.toList
      · rfl
      · exact absurd (ltS_trans h hc) (ltS_irr _)
    · rw [beq_eq_false_iff_ne]
      intro e
      have : x = y := by rw [ByteArray.toList_eq, ByteArray.toList_eq] at e; exact bytes_inj e
      subst this
      exact ltS_irr _ h
theorem eqS_iff {x y : ByteArray} : x.toList = y.toList ↔ x = y := ⟨fun e => by rw [ByteArray.toList_eq, ByteArray.toList_eq] at e; exact bytes_inj e, fun e => by rw [e]⟩

/-- The variables with one put among them, the name's own taken out. -/
def putV (kv : Va) : Bool → List Va → List Va
  | done, [] => if done then [] else [kv]
  | done, x :: l =>
    if done = false ∧ leS kv.1 x.1 = true then
      kv :: (if x.1 = kv.1 then putV kv true l else x :: putV kv true l)
    else if x.1 = kv.1 then putV kv done l else x :: putV kv done l

theorem putV_true_len (kv : Va) : ∀ l : List Va, (putV kv true l).length ≤ l.length
  | [] => by simp [putV]
  | x :: l => by
    have h := putV_true_len kv l
    unfold putV
    rw [if_neg (by simp)]
    split <;> simp <;> omega
theorem putV_len (kv : Va) : ∀ (done : Bool) (l : List Va), (putV kv done l).length ≤ l.length + 1
  | done, [] => by unfold putV; split <;> simp
  | done, x :: l => by
    have h2 := putV_len kv done l
    have h3 := putV_true_len kv l
    unfold putV
    split
    · split <;> simp <;> omega
    · split <;> simp <;> omega

theorem putV_val (kv : Va) (s : ByteArray) (hne : s ≠ kv.1) : ∀ (done : Bool) (l : List Va), firstV (putV kv done l) s = firstV l s
  | done, [] => by
    unfold putV
    cases done
    · simp [firstV, hne]
    · simp
  | done, x :: l => by
    have h1 := putV_val kv s hne true l
    have h2 := putV_val kv s hne done l
    unfold putV
    by_cases e : x.1 = kv.1
    · have e' : ¬ s = x.1 := by rw [e]; exact hne
      split
      · simp only [firstV]; rw [if_neg hne, if_neg e', h1]
      · simp only [firstV]; rw [if_neg e', h2]
    · split
      · simp only [firstV]; rw [if_neg hne, h1]
      · simp only [firstV]; rw [h2]

theorem putV_mem (kv : Va) : ∀ (done : Bool) (l : List Va) (x : Va), x ∈ putV kv done l → (x = kv ∧ done = false) ∨ (x ∈ l ∧ x.1 ≠ kv.1)
  | done, [], x, h => by
    unfold putV at h
    cases done
    · left; simpa using h
    · simp at h
  | done, y :: l, x, h => by
    have h1 := putV_mem kv true l x
    have h2 := putV_mem kv done l x
    unfold putV at h
    by_cases e : y.1 = kv.1
    · split at h
      · rename_i hd
        rcases List.mem_cons.1 h with rfl | h
        · exact .inl ⟨rfl, hd.1⟩
        · rcases h1 h with ⟨_, h'⟩ | ⟨ha, hb⟩
          · cases h'
          · exact .inr ⟨List.mem_cons_of_mem _ ha, hb⟩
      · rcases h2 h with h' | ⟨ha, hb⟩
        · exact .inl h'
        · exact .inr ⟨List.mem_cons_of_mem _ ha, hb⟩
    · split at h
      · rename_i hd
        rcases List.mem_cons.1 h with rfl | h
        · exact .inl ⟨rfl, hd.1⟩
        · rcases List.mem_cons.1 h with rfl | h
          · exact .inr ⟨List.mem_cons_self .., e⟩
          · rcases h1 h with ⟨_, h'⟩ | ⟨ha, hb⟩
            · cases h'
            · exact .inr ⟨List.mem_cons_of_mem _ ha, hb⟩
      · rcases List.mem_cons.1 h with rfl | h
        · exact .inr ⟨List.mem_cons_self .., e⟩
        · rcases h2 h with h' | ⟨ha, hb⟩
          · exact .inl h'
          · exact .inr ⟨List.mem_cons_of_mem _ ha, hb⟩

theorem leS_lt {x y : ByteArray} (h : leS x y = true) (hne : y ≠ x) : ltS x y = true := by
  refine Classical.byContradiction fun h3 => ?_
  by_cases h4 : ltS y x = true
  · rw [leS_not.2 h4] at h; cases h
  · exact hne (ltS_tri h4 h3)

theorem putV_asc (kv : Va) : ∀ (done : Bool) (l : List Va), ascV l → ascV (putV kv done l)
  | done, [], _ => by unfold putV; cases done <;> simp [ascV]
  | done, x :: l, h => by
    have hl := (List.pairwise_cons.1 h).2
    have hx := (List.pairwise_cons.1 h).1
    have h1 := putV_asc kv true l hl
    have h2 := putV_asc kv done l hl
    have m1 : ∀ y ∈ putV kv true l, ltS x.1 y.1 = true := fun y hy => by
      rcases putV_mem kv true l y hy with ⟨_, h'⟩ | ⟨ha, _⟩
      · cases h'
      · exact hx y ha
    unfold putV
    split
    · rename_i hc
      by_cases e : x.1 = kv.1
      · rw [if_pos e]
        refine List.pairwise_cons.2 ⟨fun y hy => ?_, h1⟩
        rw [← e]; exact m1 y hy
      · rw [if_neg e]
        have hk := leS_lt hc.2 e
        refine List.pairwise_cons.2 ⟨fun y hy => ?_, List.pairwise_cons.2 ⟨m1, h1⟩⟩
        rcases List.mem_cons.1 hy with rfl | hy
        · exact hk
        · exact ltS_trans hk (m1 y hy)
    · rename_i hc
      by_cases e : x.1 = kv.1
      · rw [if_pos e]; exact h2
      · rw [if_neg e]
        refine List.pairwise_cons.2 ⟨fun y hy => ?_, h2⟩
        rcases putV_mem kv done l y hy with ⟨rfl, h'⟩ | ⟨ha, _⟩
        · subst h'
          have : leS y.1 x.1 = false := by
            cases hle : leS y.1 x.1
            · rfl
            · exact absurd ⟨rfl, hle⟩ hc
          exact leS_not.1 this
        · exact hx y ha

theorem putV_own (kv : Va) : ∀ (l : List Va), ascV l → firstV (putV kv false l) kv.1 = some kv.2
  | [], _ => by simp [putV, firstV]
  | x :: l, h => by
    have ih := putV_own kv l (List.pairwise_cons.1 h).2
    unfold putV
    split
    · simp [firstV]
    · rename_i hc
      by_cases e : x.1 = kv.1
      · exfalso
        apply hc
        refine ⟨rfl, ?_⟩
        rw [e]
        simp [leS]
      · rw [if_neg e]; simp only [firstV]; rw [if_neg (fun h => e h.symm), ih]

theorem vars_up {l : List Va} (h : varsOk l) : ∀ (i n : Nat), i + n + 1 < l.length → ltS (vaAt l i).1 (vaAt l (i + n + 1)).1 = true
  | i, 0, hi => by have := h (i + 1) hi (by omega); simpa using this
  | i, n + 1, hi => by
    have h1 := vars_up h i n (by omega)
    have h2 := h (i + (n + 1) + 1) hi (by omega)
    exact ltS_trans h1 (by simpa [Nat.add_assoc] using h2)
theorem varsOk_asc {l : List Va} (h : varsOk l) : ascV l := by
  rw [ascV, List.pairwise_iff_getElem]
  intro i j hi hj hij
  rw [va_get hi, va_get hj]
  have := vars_up h i (j - i - 1) (by omega)
  rwa [show i + (j - i - 1) + 1 = j by omega] at this

theorem putV_is {l : List Va} (hok : varsOk l) (hw : WfVa l) {s : ByteArray} (hs : s.size ≤ maxLen) (v : Int) : VarsOf (putS (firstV l) s v) (putV (s, v) false l) where
  asc := putV_asc _ _ _ (varsOk_asc hok)
  siz := fun x hx => by
    rcases putV_mem _ _ _ x hx with ⟨rfl, _⟩ | ⟨h, _⟩
    · exact hs
    · obtain ⟨i, hi, rfl⟩ := List.getElem_of_mem h
      rw [va_get hi]; exact (hw i hi).1
  val := fun s' _ => by
    unfold putS
    by_cases e : s' = s
    · subst e
      rw [if_pos rfl]
      exact putV_own (s', v) l (varsOk_asc hok)
    · rw [if_neg e]
      exact putV_val (s, v) s' e _ _
end Go.Proofs.Ytgnfiakbcogdlan
