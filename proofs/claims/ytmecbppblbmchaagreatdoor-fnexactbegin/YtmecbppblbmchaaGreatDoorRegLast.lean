import Derived.Deep.RegionHeld3
import Derived.Deep.AppendLies
/- A region that draws its order and whose last operation waits for all others: the others first, in whatever order, then the last one. So what is held of the world need not hold behind the last one (a store into a cell that the region reads). -/
namespace Go.Proofs.YtmecbppblbmchaaGreatDoor
set_option linter.unusedVariables false

/-- What is asked behind the others: the last operation, and what was asked. -/
def lastQ (P : Program) (ops : Array Oper) (Q : Exit → Act → World → Prop) (n : Nat) : Exit → Act → World → Prop
  | .normal, a, w => wpOp P ops Q n (fun a w => Q .normal a w) a w
  | e, a, w => Q e a w

/-- Each operation but the last is waited for by a later one; each waits for earlier ones alone. -/
def lastCert (md : Region.Mode) (ops : Array Oper) : Bool :=
  ((List.range (ops.size - 1)).all fun j => (List.range ops.size).any fun s => decide (j < s) && (((ops[s]?).map fun o => o.after.any fun e => Region.binds md e && e.on == j).getD false)) &&
  ((List.range ops.size).all fun s => ((ops[s]?).map fun o => (o.after.all fun e => decide (e.on < s)) && (match o.guard with | some (g, _) => decide (g < s) | none => true)).getD true)

section
variable {P : Program} {ops ops' : Array Oper} {Q : Exit → Act → World → Prop} {md : Region.Mode}

theorem lastCert_waits (h : lastCert md ops = true) {j : Nat} (hj : j < ops.size - 1) : ∃ s o e, j < s ∧ ops[s]? = some o ∧ e ∈ o.after ∧ Region.binds md e = true ∧ e.on = j := by
  simp only [lastCert, Bool.and_eq_true, List.all_eq_true, List.mem_range] at h
  have h1 := h.1 j hj
  simp only [List.any_eq_true, List.mem_range, Bool.and_eq_true, decide_eq_true_eq] at h1
  obtain ⟨s, hs, hjs, h2⟩ := h1
  cases ho : ops[s]? with
  | none => rw [ho] at h2; simp at h2
  | some o =>
    rw [ho] at h2
    simp only [Option.map_some, Option.getD_some, Array.any_eq_true] at h2
    obtain ⟨i, hi, h3⟩ := h2
    simp only [Bool.and_eq_true, beq_iff_eq] at h3
    exact ⟨s, o, o.after[i], hjs, ho, Array.getElem_mem hi, h3.1, h3.2⟩

theorem lastCert_back (h : lastCert md ops = true) {s : Nat} {o : Oper} (ho : ops[s]? = some o) : (∀ e ∈ o.after, e.on < s) ∧ ∀ g b, o.guard = some (g, b) → g < s := by
  simp only [lastCert, Bool.and_eq_true, List.all_eq_true, List.mem_range] at h
  have hlt : s < ops.size := (Array.getElem?_eq_some_iff.1 ho).1
  have h1 := h.2 s hlt
  rw [ho] at h1
  simp only [Option.map_some, Option.getD_some, Bool.and_eq_true, Array.all_eq_true_iff_forall_mem, decide_eq_true_eq] at h1
  refine ⟨h1.1, fun g b hg => ?_⟩
  have h2 := h1.2
  rw [hg] at h2
  simpa using h2

/-- What is listed waits for what is listed. -/
def Shutdown (md : Region.Mode) (ops : Array Oper) (listed : Array Bool) : Prop := ∀ j o, ops[j]? = some o → listed.getD j false = true → ∀ e ∈ o.after, Region.binds md e = true → listed.getD e.on false = true

theorem getD_push (l : Array Bool) (j : Nat) (d : Bool) (h : j < l.size) : (l.push false).getD j d = l.getD j d := by
  have hn : j ≠ l.size := Nat.ne_of_lt h
  simp [Array.getElem?_push, hn]
theorem getD_push_false (l : Array Bool) (j : Nat) : (l.push false).getD j false = l.getD j false := by
  by_cases h : j < l.size
  · exact getD_push l j false h
  · by_cases e : j = l.size
    · subst e; simp
    · simp [Array.getElem?_push, e]

theorem pop_get (hp : ops' = ops.pop) {j : Nat} (hj : j < ops'.size) : ops'[j]? = ops[j]? := by
  subst hp
  simp only [Array.size_pop] at hj
  simp [hj]

theorem ready_pop (hp : ops' = ops.pop) {listed : Array Bool} (hl : listed.size = ops'.size) {j : Nat} (hj : j < ops'.size) : j ∈ Region.ready md ops (listed.push false) ↔ j ∈ Region.ready md ops' listed := by
  rw [mem_ready, mem_ready, getD_push _ _ _ (by omega), pop_get hp hj]
  simp only [getD_push_false]

theorem ready_last {listed : Array Bool} {n : Nat} {o : Oper} (ho : ops[n]? = some o) (hl : listed.size = n) : n ∈ Region.ready md ops (listed.push false) ↔ ∀ e ∈ o.after, Region.binds md e = true → listed.getD e.on false = true := by
  rw [mem_ready]
  subst hl
  constructor
  · rintro ⟨_, o', ho', h⟩
    rw [ho] at ho'
    cases ho'
    intro e he hb
    have := h e he hb
    rwa [getD_push_false] at this
  · intro h
    refine ⟨by simp, o, ho, fun e he hb => ?_⟩
    rw [getD_push_false]
    exact h e he hb

/-- Where the last one may come up all others have. -/
theorem all_listed (hc : lastCert md ops = true) {n : Nat} (hn : ops.size = n + 1) {listed : Array Bool} (hl : listed.size = n) (hd : Shutdown md ops listed) {o : Oper} (ho : ops[n]? = some o) (hr : ∀ e ∈ o.after, Region.binds md e = true → listed.getD e.on false = true) :
    ∀ d j, j + d + 1 = n → listed.getD j false = true := by
  intro d
  induction d using Nat.strongRecOn with
  | _ d ih =>
    intro j hj
    obtain ⟨s, os, e, hs, hos, he, hb, hon⟩ := lastCert_waits hc (j := j) (by omega)
    have hlt : s < ops.size := (Array.getElem?_eq_some_iff.1 hos).1
    by_cases hsn : s = n
    · subst hsn
      rw [ho] at hos
      cases hos
      rw [← hon]
      exact hr e he hb
    · have h1 := ih (n - s - 1) (by omega) s (by omega)
      rw [← hon]
      exact hd s os hos h1 e he hb

/-- Where none of the others may come up all others have. -/
theorem none_ready (hp : ops' = ops.pop) (hc : lastCert md ops = true) {listed : Array Bool} (hl : listed.size = ops'.size) (hr : Region.ready md ops' listed = []) (hs : ops.size = ops'.size + 1) :
    ∀ j, j < ops'.size → listed.getD j false = true := by
  intro j
  induction j using Nat.strongRecOn with
  | _ j ih =>
    intro hj
    cases h : listed.getD j false with
    | true => rfl
    | false =>
      exfalso
      have hlt : j < ops.size := by omega
      have ho : ops[j]? = some ops[j] := Array.getElem?_eq_getElem hlt
      have : j ∈ Region.ready md ops' listed := by
        rw [mem_ready]
        refine ⟨?_, ops[j], (pop_get hp hj).trans ho, fun e he hb => ih e.on ((lastCert_back hc ho).1 e he) (Nat.lt_trans ((lastCert_back hc ho).1 e he) hj)⟩
        have hjl : j < listed.size := by omega
        simp [hjl] at h ⊢
        exact h
      rw [hr] at this
      cases this

theorem Oper.wp_lastQ {o : Oper} {a : Act} {w : World} {K : Act → World → Prop} {n : Nat} (h : o.wp P a w K (lastQ P ops Q n)) : o.wp P a w K Q := by
  unfold Oper.wp at *
  generalize (execOp a.eval o).run P w = r at *
  cases r with
  | ok x w' =>
    cases x <;> simp only [Oper.upon] at h ⊢ <;>
      first
        | exact h
        | exact Calls.mono h (fun e w'' he => by cases e <;> first | exact he | (obtain ⟨a, w, ha⟩ := he; exact ⟨a, w, ha⟩))
  | halt x w' => cases x <;> simp only [Oper.upon] at h ⊢ <;> exact h

theorem wanted_pop (hp : ops' = ops.pop) (hc : lastCert md ops = true) {i : Nat} {o : Oper} (hi : i < ops'.size) (ho : ops[i]? = some o) (t : Array Value) : Region.wanted o (yielded ops' t) = Region.wanted o (yielded ops t) := by
  unfold Region.wanted
  cases hg : o.guard with
  | none => rfl
  | some gw =>
    obtain ⟨g, want⟩ := gw
    have := (lastCert_back hc ho).2 g want hg
    have e : yielded ops' t g = yielded ops t g := by unfold yielded; rw [pop_get hp (by omega)]
    simp only [e]

theorem wpOp_pop (hp : ops' = ops.pop) (hc : lastCert md ops = true) {i n : Nat} (hi : i < ops'.size) {K K' : Act → World → Prop} (hK : ∀ a w, K a w → K' a w) {a : Act} {w : World} (h : wpOp P ops' (lastQ P ops Q n) i K a w) : wpOp P ops Q i K' a w := by
  refine wpOp_mono hK ?_
  unfold wpOp at *
  rw [pop_get hp hi] at h
  cases ho : ops[i]? with
  | none => simpa [ho] using h
  | some o =>
    simp only [ho] at h ⊢
    rw [wanted_pop hp hc hi ho] at h
    by_cases hw : Region.wanted o (yielded ops a.tmps) = true
    · simp only [hw, if_true] at h ⊢
      rcases h with h | ⟨h1, a', w', h2⟩
      · exact .inl (Oper.wp_lastQ h)
      · exact .inr ⟨h1, a', w', h2⟩
    · simp only [hw] at h ⊢
      exact h

theorem wpAny_last (hp : ops' = ops.pop) (hc : lastCert md ops = true) (hs : ops.size = ops'.size + 1) :
    ∀ (fuel : Nat) (listed : Array Bool) (a : Act) (w : World), listed.size = ops'.size → Shutdown md ops listed → wpAny P md ops' (lastQ P ops Q ops'.size) fuel listed a w → wpAny P md ops Q (fuel + 1) (listed.push false) a w := by
  have hn : ops'.size < ops.size := by omega
  have ho : ops[ops'.size]? = some ops[ops'.size] := Array.getElem?_eq_getElem hn
  have atEnd : ∀ (fuel : Nat) (listed : Array Bool) (a : Act) (w : World), listed.size = ops'.size → (∀ j, j < ops'.size → listed.getD j false = true) → lastQ P ops Q ops'.size .normal a w → wpOp P ops Q ops'.size (wpAny P md ops Q fuel ((listed.push false).setIfInBounds ops'.size true)) a w := fun fuel listed a w hl hall hq => by
    refine wpOp_mono (fun a w h => wpAny_done ?_ h fuel) hq
    rw [List.eq_nil_iff_forall_not_mem]
    intro j hj
    rw [mem_ready] at hj
    obtain ⟨h1, o', ho', _⟩ := hj
    have hjl : j < ops.size := (Array.getElem?_eq_some_iff.1 ho').1
    by_cases e : j = ops'.size
    · subst e
      simp [hl] at h1
    · rw [getD_set_ne true (Ne.symm e), getD_push _ _ _ (by omega)] at h1
      have h2 := hall j (by omega)
      have h3 : j < listed.size := by omega
      simp [h3] at h1 h2
      rw [h1] at h2
      cases h2
  intro fuel
  induction fuel with
  | zero =>
    intro listed a w hl hd h
    obtain ⟨h1, h2⟩ := h
    have hall := none_ready hp hc hl h1 hs
    have hrd : ops'.size ∈ Region.ready md ops (listed.push false) := (ready_last ho hl).2 fun e he hb => hall _ ((lastCert_back hc ho).1 e he)
    refine ⟨fun h => (by rw [h] at hrd; cases hrd), fun i hi => ?_⟩
    have hil : i < ops.size := by obtain ⟨_, o, ho, _⟩ := mem_ready.1 hi; exact (Array.getElem?_eq_some_iff.1 ho).1
    by_cases e : i = ops'.size
    · subst e
      exact atEnd 0 listed a w hl hall h2
    · rw [ready_pop hp hl (by omega), h1] at hi
      cases hi
  | succ fuel ih =>
    intro listed a w hl hd h
    obtain ⟨h1, h2⟩ := h
    refine ⟨fun hr => ?_, fun i hi => ?_⟩
    · have hr' : Region.ready md ops' listed = [] := by
        rw [List.eq_nil_iff_forall_not_mem]
        intro j hj
        have hjl : j < ops'.size := by obtain ⟨_, o, ho, _⟩ := mem_ready.1 hj; exact (Array.getElem?_eq_some_iff.1 ho).1
        rw [← ready_pop hp hl hjl, hr] at hj
        cases hj
      have hall := none_ready hp hc hl hr' hs
      have hrd : ops'.size ∈ Region.ready md ops (listed.push false) := (ready_last ho hl).2 fun e he hb => hall _ ((lastCert_back hc ho).1 e he)
      rw [hr] at hrd
      cases hrd
    · have hil : i < ops.size := by obtain ⟨_, o, ho, _⟩ := mem_ready.1 hi; exact (Array.getElem?_eq_some_iff.1 ho).1
      by_cases e : i = ops'.size
      · subst e
        have hr := (ready_last ho hl).1 hi
        have hall : ∀ j, j < ops'.size → listed.getD j false = true := fun j hj => all_listed hc hs hl hd ho hr (ops'.size - j - 1) j (by omega)
        refine atEnd _ listed a w hl hall (h1 ?_)
        rw [List.eq_nil_iff_forall_not_mem]
        intro j hj
        obtain ⟨h3, o, ho, _⟩ := mem_ready.1 hj
        have hjl : j < ops'.size := (Array.getElem?_eq_some_iff.1 ho).1
        have h4 := hall j hjl
        have h5 : j < listed.size := by omega
        simp [h5] at h3 h4
        rw [h3] at h4
        cases h4
      · have hi' : i < ops'.size := by omega
        have hr := (ready_pop hp hl hi').1 hi
        refine wpOp_pop hp hc hi' (fun a w hK => ?_) (h2 i hr)
        have e2 : (listed.push false).setIfInBounds i true = (listed.setIfInBounds i true).push false := by
          have hil2 : i < listed.size := by omega
          have hne2 : i ≠ listed.size := by omega
          refine Array.ext_getElem? fun j => ?_
          by_cases e3 : j = i
          · subst e3
            rw [Array.getElem?_setIfInBounds_self_of_lt (by simp; omega), Array.getElem?_push, if_neg (by simpa using hne2), Array.getElem?_setIfInBounds_self_of_lt hil2]
          · simp [Array.getElem?_push, Array.getElem?_setIfInBounds_ne (Ne.symm e3)]
        rw [e2]
        refine ih _ a w (by simpa using hl) (fun j o hoj hj ed he hb => ?_) hK
        by_cases eji : j = i
        · subst eji
          obtain ⟨_, o', ho', hall⟩ := mem_ready.1 hr
          rw [pop_get hp hi', hoj] at ho'
          cases ho'
          exact getD_set_true (hall ed he hb)
        · rw [getD_set_ne false (Ne.symm eji)] at hj
          exact getD_set_true (hd j o hoj hj ed he hb)

theorem shut_start (n : Nat) : Shutdown md ops (Array.replicate n false) := fun j o ho hj e he hb => by
  exfalso
  by_cases hjl : j < n
  · simp [hjl] at hj
  · simp [hjl] at hj

variable {S : World → Prop} {l : List Oper}

/-- **The last one last**: the region without it, and behind it the last one. -/
theorem region_last {id : Nat} {a : Act} {w : World} (S : World → Prop) (hm : P.follows .mixedOrders = true) (hc : lastCert .any l.toArray = true) (hs : (l.length == l.dropLast.length + 1) = true) (hS : S w.drew)
    (h : S w.drew → wpAnyH P .any l.dropLast.toArray (lastQ P l.toArray Q l.dropLast.length) S l.dropLast.length (Array.replicate l.dropLast.length false) a w.drew) : (Code.region id l.toArray true).wp P Q a w := by
  have hs' : l.length = l.dropLast.length + 1 := by simpa using hs
  have hp : l.dropLast.toArray = l.toArray.pop := by simp
  refine wp_region_any hm ?_
  have := wpAny_last (P := P) (Q := Q) hp hc (by simpa using hs') l.dropLast.length (Array.replicate l.dropLast.length false) a w.drew (by simp) (shut_start _) (wpAny_of_held _ _ _ _ (h hS))
  rw [show (Array.replicate l.dropLast.length false).push false = Array.replicate l.length false by rw [hs', Array.replicate_succ]] at this
  rw [List.size_toArray]
  rw [← hs'] at this
  exact this

/-- The same, with no last one set apart. -/
theorem region_all {id : Nat} {a : Act} {w : World} (S : World → Prop) (hm : P.follows .mixedOrders = true) (hS : S w.drew)
    (h : S w.drew → wpAnyH P .any l.toArray Q S l.length (Array.replicate l.length false) a w.drew) : (Code.region id l.toArray true).wp P Q a w :=
  wp_region_held_drew (S := S) hm hS (by simpa using h)

theorem takeL {i : Nat} {oi : Oper} {v : Value} {fuel : Nat} {listed : Array Bool} {a : Act} {w : World} (hi : l[i]? = some oi)
    (hs : Region.noSelect l.toArray = true) (hf : Region.free md l.toArray listed i = true) (hr : (Region.ready md l.toArray listed).contains i = true)
    (hQ : ∀ c a w, Q (.panic c) (a.put oi.dst v) w → Q (.panic c) a w) (hg : oi.guard = none) (hS : S w) (hy : ∀ w, S w → (execOp a.eval oi).run P w = .ok (.value v) w)
    (h : wpAnyH P md l.toArray Q S fuel (listed.setIfInBounds i true) (a.put oi.dst v) w) : wpAnyH P md l.toArray Q S (fuel + 1) listed a w :=
  wpAnyH_take (by simpa using hi) hs hf hr hQ (.inl ⟨by simp [Region.wanted, hg], hy⟩) hS h

/-- The one operation that may come up. -/
theorem stepL {i : Nat} {o : Oper} {fuel : Nat} {listed : Array Bool} {a : Act} {w : World} (hi : l[i]? = some o) (hr : Region.ready md l.toArray listed = [i])
    (h : ∀ K' : Act → World → Prop, Shut (∀ a w, S w → (S w → wpAnyH P md l.toArray Q S fuel (listed.setIfInBounds i true) a w) → K' a w) → if Region.wanted o (yielded l.toArray a.tmps) = true then Oper.wp P o a w K' Q else K' (a.put o.dst undef) w) :
    wpAnyH P md l.toArray Q S (fuel + 1) listed a w :=
  wpAnyH_ready hr (by simp) (AllReadyH.cons (by simpa using hi) h AllReadyH.nil)

/-- Two that may come up: either first. -/
theorem step2L {i j : Nat} {o o' : Oper} {fuel : Nat} {listed : Array Bool} {a : Act} {w : World} (hi : l[i]? = some o) (hj : l[j]? = some o') (hr : Region.ready md l.toArray listed = [i, j])
    (h : ∀ K' : Act → World → Prop, Shut (∀ a w, S w → (S w → wpAnyH P md l.toArray Q S fuel (listed.setIfInBounds i true) a w) → K' a w) → if Region.wanted o (yielded l.toArray a.tmps) = true then Oper.wp P o a w K' Q else K' (a.put o.dst undef) w)
    (h' : ∀ K' : Act → World → Prop, Shut (∀ a w, S w → (S w → wpAnyH P md l.toArray Q S fuel (listed.setIfInBounds j true) a w) → K' a w) → if Region.wanted o' (yielded l.toArray a.tmps) = true then Oper.wp P o' a w K' Q else K' (a.put o'.dst undef) w) :
    wpAnyH P md l.toArray Q S (fuel + 1) listed a w :=
  wpAnyH_ready hr (by simp) (AllReadyH.cons (by simpa using hi) h (AllReadyH.cons (by simpa using hj) h' AllReadyH.nil))

/-- Behind all others: the last one. -/
theorem lastL {n : Nat} {o : Oper} {a : Act} {w : World} (hi : l[n]? = some o) (hg : o.guard = none) (h : o.wp P a w (fun a w => Q .normal a w) Q) : lastQ P l.toArray Q n .normal a w := by
  show wpOp P l.toArray Q n _ a w
  unfold wpOp
  have hi' : l.toArray[n]? = some o := by simpa using hi
  simp only [hi']
  rw [if_pos (by simp [Region.wanted, hg])]
  exact .inl h

end
end Go.Proofs.YtmecbppblbmchaaGreatDoor
