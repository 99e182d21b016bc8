import Derived.Test.YtmecbppblbmchaaGreatDoorStoreOf2
import Derived.Deep.RegionHeld3
import Derived.Deep.AppendLies
/- impl.copyList at versions: the new block, whole. -/
namespace Go.Proofs.YtmecbppblbmchaaGreatDoor
open Go.ChangeShapes Go.WideShapes Go.ChangeAt Go.RowKit Go.Maps Go.Sort
set_option linter.unusedVariables false
set_option maxRecDepth 100000
attribute [local go_sem ↓] Go.wp_at_zero Go.wp_at_succ

theorem copyVer_block (a : Option Addr) (n cap : Nat) (cs : List Value) (w : World) (hn : n ≤ 1048576) (hl : cs.length = n * 2) (h1 : ∀ v ∈ cs, v.oneCell' = true) (hc : CellsAt w a n cs) :
    Calls Tryz.prog 104 #[.slice a n cap] w fun e w' => e = .returned (.slice (some ⟨w.heap.size, 0, none⟩) n n) ∧ w'.heap[w.heap.size]? = some (.cells cs.toArray 123 (0, 0)) ∧ Below w.heap.size w w' := by
  have hmk := make_vers n hn w
  have hsz : (Tryz.prog.info? 123).map (·.size) = some 2 := by kernel_rfl
  have hbA : Below w.heap.size w (w.alloc (.cells (madeCells #[.int .i64 0, .int .i64 0] (n * 2)) 123)) := (Below.refl _ _).alloc (Nat.le_refl _) _
  by_cases h0 : n = 0
  · have hcp := fun ty => run_copy_noneK (P := Tryz.prog) (w.alloc (.cells (madeCells #[.int .i64 0, .int .i64 0] (n * 2)) 123)) 92 92 ty 123 (some ⟨w.heap.size, 0, none⟩) a n n n cap 2 Tryz.underlying92 hsz (by rw [h0]; rfl)
    obtain ⟨W1, hW1⟩ : ∃ W1, w.alloc (.cells (madeCells #[.int .i64 0, .int .i64 0] (n * 2)) 123) = W1 := ⟨_, rfl⟩
    have hrow : W1.heap[w.heap.size]? = some (.cells cs.toArray 123 (0, 0)) := by
      rw [← hW1, Deep.blk_alloc_new]
      subst h0
      have : cs = [] := List.eq_nil_of_length_eq_zero (by omega)
      subst this
      simp [madeCells]
    rw [hW1] at hmk hcp hbA
    clear hc hsz hW1 h0 hl h1
    go_enter Tryz.func104, Tryz.ntmps104
    go_wp2
    go_ret
    exact ⟨rfl, hrow, hbA⟩
  · obtain ⟨b, off, rfl, hcc⟩ := hc (by omega)
    have hsrc : ∀ j v, cs[j]? = some v → (w.alloc (.cells (madeCells #[.int .i64 0, .int .i64 0] (n * 2)) 123)).cell? ((⟨b, off, none⟩ : Addr).add j) = some v := fun j v hj => by
      rw [add_at]; exact cell_stays hbA (hcc j v hj)
    have hcp := fun ty => run_copy_rowK (P := Tryz.prog) (w.alloc (.cells (madeCells #[.int .i64 0, .int .i64 0] (n * 2)) 123)) 92 92 ty 123 w.heap.size 0 n n ⟨b, off, none⟩ n cap _ _ cs n 2 Tryz.underlying92 hsz (Deep.blk_alloc_new _ _) (Nat.min_self _) hl hsrc (by rw [hl, size_madeCells]; omega) h1
    obtain ⟨W2, hW2⟩ : ∃ W2, (w.alloc (.cells (madeCells #[.int .i64 0, .int .i64 0] (n * 2)) 123)).setRow w.heap.size (((madeCells #[.int .i64 0, .int .i64 0] (n * 2)).toList.take 0 ++ cs ++ (madeCells #[.int .i64 0, .int .i64 0] (n * 2)).toList.drop (0 + cs.length)).toArray) = W2 := ⟨_, rfl⟩
    rw [hW2] at hcp
    have hrow : W2.heap[w.heap.size]? = some (.cells cs.toArray 123 (0, 0)) := by
      have := setRow_heap (w.alloc (.cells (madeCells #[.int .i64 0, .int .i64 0] (n * 2)) 123)) w.heap.size _ (((madeCells #[.int .i64 0, .int .i64 0] (n * 2)).toList.take 0 ++ cs ++ (madeCells #[.int .i64 0, .int .i64 0] (n * 2)).toList.drop (0 + cs.length)).toArray) _ _ (Deep.blk_alloc_new _ _)
      rw [hW2] at this
      rw [this]
      congr 2
      rw [List.drop_eq_nil_of_le (by rw [hl, Array.length_toList, size_madeCells]; omega)]
      simp
    have hb2 : Below w.heap.size w W2 := by
      rw [← hW2]
      exact hbA.trans ⟨rfl, rfl, rfl, by simp [World.setRow], fun k hk => setRow_other _ _ k _ (by omega)⟩
    clear hc hsz hcc hsrc hW2 hl h1
    go_enter Tryz.func104, Tryz.ntmps104
    go_wp2
    go_ret
    exact ⟨rfl, hrow, hb2⟩

theorem ownsRow_of_block {w : World} {base g n k : Nat} {T : TypeId} {cs : List Value} (hb : w.heap[g]? = some (.cells cs.toArray T (0, 0))) (hl : cs.length = n * k) (hg : base ≤ g) (hn : n ≤ maxLen) : w.ownsRow base T k (.slice (some ⟨g, 0, none⟩) n n) n cs :=
  ⟨hl, .inr ⟨g, n, cs.toArray, rfl, hg, hb, Nat.le_refl _, hn, by simpa using hl, by simp [← hl]⟩⟩

theorem vcells_snoc (l : List Vr) (h v : Int) : vcells (l ++ [(h, v)]) = vcells l ++ [.int .i64 h, .int .i64 v] := by simp [vcells]

theorem vcells_flatK (l : List Vr) : vcells l = flatK l := rfl

end Go.Proofs.YtmecbppblbmchaaGreatDoor

/- A region that draws its order and whose last operation waits for all others: the others first, in whatever order, then the last one. So what is held of the world need not hold behind the last one (a store into a cell that the region reads). -/
namespace Go.Proofs.YtmecbppblbmchaaGreatDoor
set_option linter.unusedVariables false

/-- What is asked behind the others: the last operation, and what was asked. -/
def lastQ (P : Program) (ops : Array Oper) (Q : Exit → Act → World → Prop) (n : Nat) : Exit → Act → World → Prop
  | .normal, a, w => wpOp P ops Q n (fun a w => Q .normal a w) a w
  | e, a, w => Q e a w

/-- Each operation but the last is waited for by a later one; each waits for earlier ones alone. -/
def lastCert (md : Region.Mode) (ops : Array Oper) : Bool :=
  ((List.range (ops.size - 1)).all fun j => (List.range ops.size).any fun s => decide (j < s) && (((ops[s]?).map fun o => o.after.any fun e => Region.binds md e && e.on == j).getD false)) &&
  ((List.range ops.size).all fun s => ((ops[s]?).map fun o => (o.after.all fun e => decide (e.on < s)) && (match o.guard with | some (g, _) => decide (g < s) | none => true)).getD true)

section
variable {P : Program} {ops ops' : Array Oper} {Q : Exit → Act → World → Prop} {md : Region.Mode}

theorem lastCert_waits (h : lastCert md ops = true) {j : Nat} (hj : j < ops.size - 1) : ∃ s o e, j < s ∧ ops[s]? = some o ∧ e ∈ o.after ∧ Region.binds md e = true ∧ e.on = j := by
  simp only [lastCert, Bool.and_eq_true, List.all_eq_true, List.mem_range] at h
  have h1 := h.1 j hj
  simp only [List.any_eq_true, List.mem_range, Bool.and_eq_true, decide_eq_true_eq] at h1
  obtain ⟨s, hs, hjs, h2⟩ := h1
  cases ho : ops[s]? with
  | none => rw [ho] at h2; simp at h2
  | some o =>
    rw [ho] at h2
    simp only [Option.map_some, Option.getD_some, Array.any_eq_true] at h2
    obtain ⟨i, hi, h3⟩ := h2
    simp only [Bool.and_eq_true, beq_iff_eq] at h3
    exact ⟨s, o, o.after[i], hjs, ho, Array.getElem_mem hi, h3.1, h3.2⟩

theorem lastCert_back (h : lastCert md ops = true) {s : Nat} {o : Oper} (ho : ops[s]? = some o) : (∀ e ∈ o.after, e.on < s) ∧ ∀ g b, o.guard = some (g, b) → g < s := by
  simp only [lastCert, Bool.and_eq_true, List.all_eq_true, List.mem_range] at h
  have hlt : s < ops.size := (Array.getElem?_eq_some_iff.1 ho).1
  have h1 := h.2 s hlt
  rw [ho] at h1
  simp only [Option.map_some, Option.getD_some, Bool.and_eq_true, Array.all_eq_true_iff_forall_mem, decide_eq_true_eq] at h1
  refine ⟨h1.1, fun g b hg => ?_⟩
  have h2 := h1.2
  rw [hg] at h2
  simpa using h2

/-- What is listed waits for what is listed. -/
def Shutdown (md : Region.Mode) (ops : Array Oper) (listed : Array Bool) : Prop := ∀ j o, ops[j]? = some o → listed.getD j false = true → ∀ e ∈ o.after, Region.binds md e = true → listed.getD e.on false = true

theorem getD_push (l : Array Bool) (j : Nat) (d : Bool) (h : j < l.size) : (l.push false).getD j d = l.getD j d := by
  have hn : j ≠ l.size := Nat.ne_of_lt h
  simp [Array.getElem?_push, hn]
theorem getD_push_false (l : Array Bool) (j : Nat) : (l.push false).getD j false = l.getD j false := by
  by_cases h : j < l.size
  · exact getD_push l j false h
  · by_cases e : j = l.size
    · subst e; simp
    · simp [Array.getElem?_push, e]

theorem pop_get (hp : ops' = ops.pop) {j : Nat} (hj : j < ops'.size) : ops'[j]? = ops[j]? := by
  subst hp
  simp only [Array.size_pop] at hj
  simp [hj]

theorem ready_pop (hp : ops' = ops.pop) {listed : Array Bool} (hl : listed.size = ops'.size) {j : Nat} (hj : j < ops'.size) : j ∈ Region.ready md ops (listed.push false) ↔ j ∈ Region.ready md ops' listed := by
  rw [mem_ready, mem_ready, getD_push _ _ _ (by omega), pop_get hp hj]
  simp only [getD_push_false]

theorem ready_last {listed : Array Bool} {n : Nat} {o : Oper} (ho : ops[n]? = some o) (hl : listed.size = n) : n ∈ Region.ready md ops (listed.push false) ↔ ∀ e ∈ o.after, Region.binds md e = true → listed.getD e.on false = true := by
  rw [mem_ready]
  subst hl
  constructor
  · rintro ⟨_, o', ho', h⟩
    rw [ho] at ho'
    cases ho'
    intro e he hb
    have := h e he hb
    rwa [getD_push_false] at this
  · intro h
    refine ⟨by simp, o, ho, fun e he hb => ?_⟩
    rw [getD_push_false]
    exact h e he hb

/-- Where the last one may come up all others have. -/
theorem all_listed (hc : lastCert md ops = true) {n : Nat} (hn : ops.size = n + 1) {listed : Array Bool} (hl : listed.size = n) (hd : Shutdown md ops listed) {o : Oper} (ho : ops[n]? = some o) (hr : ∀ e ∈ o.after, Region.binds md e = true → listed.getD e.on false = true) :
    ∀ d j, j + d + 1 = n → listed.getD j false = true := by
  intro d
  induction d using Nat.strongRecOn with
  | _ d ih =>
    intro j hj
    obtain ⟨s, os, e, hs, hos, he, hb, hon⟩ := lastCert_waits hc (j := j) (by omega)
    have hlt : s < ops.size := (Array.getElem?_eq_some_iff.1 hos).1
    by_cases hsn : s = n
    · subst hsn
      rw [ho] at hos
      cases hos
      rw [← hon]
      exact hr e he hb
    · have h1 := ih (n - s - 1) (by omega) s (by omega)
      rw [← hon]
      exact hd s os hos h1 e he hb

/-- Where none of the others may come up all others have. -/
theorem none_ready (hp : ops' = ops.pop) (hc : lastCert md ops = true) {listed : Array Bool} (hl : listed.size = ops'.size) (hr : Region.ready md ops' listed = []) (hs : ops.size = ops'.size + 1) :
    ∀ j, j < ops'.size → listed.getD j false = true := by
  intro j
  induction j using Nat.strongRecOn with
  | _ j ih =>
    intro hj
    cases h : listed.getD j false with
    | true => rfl
    | false =>
      exfalso
      have hlt : j < ops.size := by omega
      have ho : ops[j]? = some ops[j] := Array.getElem?_eq_getElem hlt
      have : j ∈ Region.ready md ops' listed := by
        rw [mem_ready]
        refine ⟨?_, ops[j], (pop_get hp hj).trans ho, fun e he hb => ih e.on ((lastCert_back hc ho).1 e he) (Nat.lt_trans ((lastCert_back hc ho).1 e he) hj)⟩
        have hjl : j < listed.size := by omega
        simp [hjl] at h ⊢
        exact h
      rw [hr] at this
      cases this

theorem Oper.wp_lastQ {o : Oper} {a : Act} {w : World} {K : Act → World → Prop} {n : Nat} (h : o.wp P a w K (lastQ P ops Q n)) : o.wp P a w K Q := by
  unfold Oper.wp at *
  generalize (execOp a.eval o).run P w = r at *
  cases r with
  | ok x w' =>
    cases x <;> simp only [Oper.upon] at h ⊢ <;>
      first
        | exact h
        | exact Calls.mono h (fun e w'' he => by cases e <;> first | exact he | (obtain ⟨a, w, ha⟩ := he; exact ⟨a, w, ha⟩))
  | halt x w' => cases x <;> simp only [Oper.upon] at h ⊢ <;> exact h

theorem wanted_pop (hp : ops' = ops.pop) (hc : lastCert md ops = true) {i : Nat} {o : Oper} (hi : i < ops'.size) (ho : ops[i]? = some o) (t : Array Value) : Region.wanted o (yielded ops' t) = Region.wanted o (yielded ops t) := by
  unfold Region.wanted
  cases hg : o.guard with
  | none => rfl
  | some gw =>
    obtain ⟨g, want⟩ := gw
    have := (lastCert_back hc ho).2 g want hg
    have e : yielded ops' t g = yielded ops t g := by unfold yielded; rw [pop_get hp (by omega)]
    simp only [e]

theorem wpOp_pop (hp : ops' = ops.pop) (hc : lastCert md ops = true) {i n : Nat} (hi : i < ops'.size) {K K' : Act → World → Prop} (hK : ∀ a w, K a w → K' a w) {a : Act} {w : World} (h : wpOp P ops' (lastQ P ops Q n) i K a w) : wpOp P ops Q i K' a w := by
  refine wpOp_mono hK ?_
  unfold wpOp at *
  rw [pop_get hp hi] at h
  cases ho : ops[i]? with
  | none => simpa [ho] using h
  | some o =>
    simp only [ho] at h ⊢
    rw [wanted_pop hp hc hi ho] at h
    by_cases hw : Region.wanted o (yielded ops a.tmps) = true
    · simp only [hw, if_true] at h ⊢
      rcases h with h | ⟨h1, a', w', h2⟩
      · exact .inl (Oper.wp_lastQ h)
      · exact .inr ⟨h1, a', w', h2⟩
    · simp only [hw] at h ⊢
      exact h

theorem wpAny_last (hp : ops' = ops.pop) (hc : lastCert md ops = true) (hs : ops.size = ops'.size + 1) :
    ∀ (fuel : Nat) (listed : Array Bool) (a : Act) (w : World), listed.size = ops'.size → Shutdown md ops listed → wpAny P md ops' (lastQ P ops Q ops'.size) fuel listed a w → wpAny P md ops Q (fuel + 1) (listed.push false) a w := by
  have hn : ops'.size < ops.size := by omega
  have ho : ops[ops'.size]? = some ops[ops'.size] := Array.getElem?_eq_getElem hn
  have atEnd : ∀ (fuel : Nat) (listed : Array Bool) (a : Act) (w : World), listed.size = ops'.size → (∀ j, j < ops'.size → listed.getD j false = true) → lastQ P ops Q ops'.size .normal a w → wpOp P ops Q ops'.size (wpAny P md ops Q fuel ((listed.push false).setIfInBounds ops'.size true)) a w := fun fuel listed a w hl hall hq => by
    refine wpOp_mono (fun a w h => wpAny_done ?_ h fuel) hq
    rw [List.eq_nil_iff_forall_not_mem]
    intro j hj
    rw [mem_ready] at hj
    obtain ⟨h1, o', ho', _⟩ := hj
    have hjl : j < ops.size := (Array.getElem?_eq_some_iff.1 ho').1
    by_cases e : j = ops'.size
    · subst e
      simp [hl] at h1
    · rw [getD_set_ne true (Ne.symm e), getD_push _ _ _ (by omega)] at h1
      have h2 := hall j (by omega)
      have h3 : j < listed.size := by omega
      simp [h3] at h1 h2
      rw [h1] at h2
      cases h2
  intro fuel
  induction fuel with
  | zero =>
    intro listed a w hl hd h
    obtain ⟨h1, h2⟩ := h
    have hall := none_ready hp hc hl h1 hs
    have hrd : ops'.size ∈ Region.ready md ops (listed.push false) := (ready_last ho hl).2 fun e he hb => hall _ ((lastCert_back hc ho).1 e he)
    refine ⟨fun h => (by rw [h] at hrd; cases hrd), fun i hi => ?_⟩
    have hil : i < ops.size := by obtain ⟨_, o, ho, _⟩ := mem_ready.1 hi; exact (Array.getElem?_eq_some_iff.1 ho).1
    by_cases e : i = ops'.size
    · subst e
      exact atEnd 0 listed a w hl hall h2
    · rw [ready_pop hp hl (by omega), h1] at hi
      cases hi
  | succ fuel ih =>
    intro listed a w hl hd h
    obtain ⟨h1, h2⟩ := h
    refine ⟨fun hr => ?_, fun i hi => ?_⟩
    · have hr' : Region.ready md ops' listed = [] := by
        rw [List.eq_nil_iff_forall_not_mem]
        intro j hj
        have hjl : j < ops'.size := by obtain ⟨_, o, ho, _⟩ := mem_ready.1 hj; exact (Array.getElem?_eq_some_iff.1 ho).1
        rw [← ready_pop hp hl hjl, hr] at hj
        cases hj
      have hall := none_ready hp hc hl hr' hs
      have hrd : ops'.size ∈ Region.ready md ops (listed.push false) := (ready_last ho hl).2 fun e he hb => hall _ ((lastCert_back hc ho).1 e he)
      rw [hr] at hrd
      cases hrd
    · have hil : i < ops.size := by obtain ⟨_, o, ho, _⟩ := mem_ready.1 hi; exact (Array.getElem?_eq_some_iff.1 ho).1
      by_cases e : i = ops'.size
      · subst e
        have hr := (ready_last ho hl).1 hi
        have hall : ∀ j, j < ops'.size → listed.getD j false = true := fun j hj => all_listed hc hs hl hd ho hr (ops'.size - j - 1) j (by omega)
        refine atEnd _ listed a w hl hall (h1 ?_)
        rw [List.eq_nil_iff_forall_not_mem]
        intro j hj
        obtain ⟨h3, o, ho, _⟩ := mem_ready.1 hj
        have hjl : j < ops'.size := (Array.getElem?_eq_some_iff.1 ho).1
        have h4 := hall j hjl
        have h5 : j < listed.size := by omega
        simp [h5] at h3 h4
        rw [h3] at h4
        cases h4
      · have hi' : i < ops'.size := by omega
        have hr := (ready_pop hp hl hi').1 hi
        refine wpOp_pop hp hc hi' (fun a w hK => ?_) (h2 i hr)
        have e2 : (listed.push false).setIfInBounds i true = (listed.setIfInBounds i true).push false := by
          have hil2 : i < listed.size := by omega
          have hne2 : i ≠ listed.size := by omega
          refine Array.ext_getElem? fun j => ?_
          by_cases e3 : j = i
          · subst e3
            rw [Array.getElem?_setIfInBounds_self_of_lt (by simp; omega), Array.getElem?_push, if_neg (by simpa using hne2), Array.getElem?_setIfInBounds_self_of_lt hil2]
          · simp [Array.getElem?_push, Array.getElem?_setIfInBounds_ne (Ne.symm e3)]
        rw [e2]
        refine ih _ a w (by simpa using hl) (fun j o hoj hj ed he hb => ?_) hK
        by_cases eji : j = i
        · subst eji
          obtain ⟨_, o', ho', hall⟩ := mem_ready.1 hr
          rw [pop_get hp hi', hoj] at ho'
          cases ho'
          exact getD_set_true (hall ed he hb)
        · rw [getD_set_ne false (Ne.symm eji)] at hj
          exact getD_set_true (hd j o hoj hj ed he hb)

theorem shut_start (n : Nat) : Shutdown md ops (Array.replicate n false) := fun j o ho hj e he hb => by
  exfalso
  by_cases hjl : j < n
  · simp [hjl] at hj
  · simp [hjl] at hj

variable {S : World → Prop} {l : List Oper}

/-- **The last one last**: the region without it, and behind it the last one. -/
theorem region_last {id : Nat} {a : Act} {w : World} (S : World → Prop) (hm : P.follows .mixedOrders = true) (hc : lastCert .any l.toArray = true) (hs : (l.length == l.dropLast.length + 1) = true) (hS : S w.drew)
    (h : S w.drew → wpAnyH P .any l.dropLast.toArray (lastQ P l.toArray Q l.dropLast.length) S l.dropLast.length (Array.replicate l.dropLast.length false) a w.drew) : (Code.region id l.toArray true).wp P Q a w := by
  have hs' : l.length = l.dropLast.length + 1 := by simpa using hs
  have hp : l.dropLast.toArray = l.toArray.pop := by simp
  refine wp_region_any hm ?_
  have := wpAny_last (P := P) (Q := Q) hp hc (by simpa using hs') l.dropLast.length (Array.replicate l.dropLast.length false) a w.drew (by simp) (shut_start _) (wpAny_of_held _ _ _ _ (h hS))
  rw [show (Array.replicate l.dropLast.length false).push false = Array.replicate l.length false by rw [hs', Array.replicate_succ]] at this
  rw [List.size_toArray]
  rw [← hs'] at this
  exact this

/-- The same, with no last one set apart. -/
theorem region_all {id : Nat} {a : Act} {w : World} (S : World → Prop) (hm : P.follows .mixedOrders = true) (hS : S w.drew)
    (h : S w.drew → wpAnyH P .any l.toArray Q S l.length (Array.replicate l.length false) a w.drew) : (Code.region id l.toArray true).wp P Q a w :=
  wp_region_held_drew (S := S) hm hS (by simpa using h)

theorem takeL {i : Nat} {oi : Oper} {v : Value} {fuel : Nat} {listed : Array Bool} {a : Act} {w : World} (hi : l[i]? = some oi)
    (hs : Region.noSelect l.toArray = true) (hf : Region.free md l.toArray listed i = true) (hr : (Region.ready md l.toArray listed).contains i = true)
    (hQ : ∀ c a w, Q (.panic c) (a.put oi.dst v) w → Q (.panic c) a w) (hg : oi.guard = none) (hS : S w) (hy : ∀ w, S w → (execOp a.eval oi).run P w = .ok (.value v) w)
    (h : wpAnyH P md l.toArray Q S fuel (listed.setIfInBounds i true) (a.put oi.dst v) w) : wpAnyH P md l.toArray Q S (fuel + 1) listed a w :=
  wpAnyH_take (by simpa using hi) hs hf hr hQ (.inl ⟨by simp [Region.wanted, hg], hy⟩) hS h

/-- The one operation that may come up. -/
theorem stepL {i : Nat} {o : Oper} {fuel : Nat} {listed : Array Bool} {a : Act} {w : World} (hi : l[i]? = some o) (hr : Region.ready md l.toArray listed = [i])
    (h : ∀ K' : Act → World → Prop, Shut (∀ a w, S w → (S w → wpAnyH P md l.toArray Q S fuel (listed.setIfInBounds i true) a w) → K' a w) → if Region.wanted o (yielded l.toArray a.tmps) = true then Oper.wp P o a w K' Q else K' (a.put o.dst undef) w) :
    wpAnyH P md l.toArray Q S (fuel + 1) listed a w :=
  wpAnyH_ready hr (by simp) (AllReadyH.cons (by simpa using hi) h AllReadyH.nil)

/-- Two that may come up: either first. -/
theorem step2L {i j : Nat} {o o' : Oper} {fuel : Nat} {listed : Array Bool} {a : Act} {w : World} (hi : l[i]? = some o) (hj : l[j]? = some o') (hr : Region.ready md l.toArray listed = [i, j])
    (h : ∀ K' : Act → World → Prop, Shut (∀ a w, S w → (S w → wpAnyH P md l.toArray Q S fuel (listed.setIfInBounds i true) a w) → K' a w) → if Region.wanted o (yielded l.toArray a.tmps) = true then Oper.wp P o a w K' Q else K' (a.put o.dst undef) w)
    (h' : ∀ K' : Act → World → Prop, Shut (∀ a w, S w → (S w → wpAnyH P md l.toArray Q S fuel (listed.setIfInBounds j true) a w) → K' a w) → if Region.wanted o' (yielded l.toArray a.tmps) = true then Oper.wp P o' a w K' Q else K' (a.put o'.dst undef) w) :
    wpAnyH P md l.toArray Q S (fuel + 1) listed a w :=
  wpAnyH_ready hr (by simp) (AllReadyH.cons (by simpa using hi) h (AllReadyH.cons (by simpa using hj) h' AllReadyH.nil))

/-- Behind all others: the last one. -/
theorem lastL {n : Nat} {o : Oper} {a : Act} {w : World} (hi : l[n]? = some o) (hg : o.guard = none) (h : o.wp P a w (fun a w => Q .normal a w) Q) : lastQ P l.toArray Q n .normal a w := by
  show wpOp P l.toArray Q n _ a w
  unfold wpOp
  have hi' : l.toArray[n]? = some o := by simpa using hi
  simp only [hi']
  rw [if_pos (by simp [Region.wanted, hg])]
  exact .inl h

end
end Go.Proofs.YtmecbppblbmchaaGreatDoor

/- A store that is being built: its chains in a row of the call's own, each list in a row of its own, with whatever room. -/
namespace Go.Proofs.YtmecbppblbmchaaGreatDoor
open Go.ChangeShapes Go.WideShapes Go.ChangeAt Go.RowKit Go.Maps Go.Sort
set_option linter.unusedVariables false
set_option maxRecDepth 100000

/-- Nothing has turned but the blocks that are owned. -/
structure Turn (own : Nat → Prop) (w w' : World) : Prop where
  os : w'.os = w.os
  tape : w'.tape = w.tape
  output : w'.output = w.output
  size : w.heap.size ≤ w'.heap.size
  block : ∀ k, k < w.heap.size → ¬ own k → w'.heap[k]? = w.heap[k]?

theorem Turn.refl (own : Nat → Prop) (w : World) : Turn own w w := ⟨rfl, rfl, rfl, Nat.le_refl _, fun _ _ _ => rfl⟩
theorem Turn.trans {own own' : Nat → Prop} {a b c : World} (h : Turn own a b) (k : Turn own' b c) (ho : ∀ g, own' g → own g ∨ a.heap.size ≤ g) : Turn own a c :=
  ⟨k.os.trans h.os, k.tape.trans h.tape, k.output.trans h.output, Nat.le_trans h.size k.size, fun g hg hn => (k.block g (Nat.lt_of_lt_of_le hg h.size) fun e => by rcases ho g e with e | e; exact hn e; omega).trans (h.block g hg hn)⟩
theorem Turn.of_below {own : Nat → Prop} {w w' : World} (h : Below w.heap.size w w') : Turn own w w' := ⟨h.os, h.tape, h.output, h.size, fun k hk _ => h.block k hk⟩
theorem Turn.below {own : Nat → Prop} {w w' : World} (h : Turn own w w') {B : Nat} (hB : B ≤ w.heap.size) (ho : ∀ g, own g → B ≤ g) : Below B w w' := ⟨h.os, h.tape, h.output, h.size, fun k hk => h.block k (by omega) fun e => by have := ho k e; omega⟩
theorem Turn.grown {own : Nat → Prop} {a w w' : World} {row : Option Nat} (h : Turn own a w) (hg : w.grownBy w' row) (ho : ∀ g, row = some g → own g ∨ a.heap.size ≤ g) : Turn own a w' :=
  ⟨hg.os.trans h.os, hg.tape.trans h.tape, hg.output.trans h.output, Nat.le_trans h.size hg.size, fun g hl hn => (hg.block g (Nat.lt_of_lt_of_le hl h.size) fun e => by rcases ho g e.symm with e | e; exact hn e; omega).trans (h.block g hl hn)⟩
theorem Turn.setCell {own : Nat → Prop} {a w : World} (h : Turn own a w) {p : Addr} (hp : own p.block ∨ a.heap.size ≤ p.block) (u : Value) : Turn own a (w.setCell p u) :=
  ⟨h.os, h.tape, h.output, by have := h.size; simpa [World.setCell] using this, fun g hl hn => (Below.heap_setCell _ _ _ _ fun e => by subst e; rcases hp with e | e; exact hn e; omega).trans (h.block g hl hn)⟩
theorem Turn.alloc {own : Nat → Prop} {a w : World} (h : Turn own a w) (o : Obj) : Turn own a (w.alloc o) :=
  ⟨h.os, h.tape, h.output, by have := h.size; simp; omega, fun g hl hn => (Below.heap_alloc _ _ _ (Nat.lt_of_lt_of_le hl h.size)).trans (h.block g hl hn)⟩
theorem Turn.drew {own : Nat → Prop} {a w : World} (h : Turn own a w) : Turn own a w.drew := ⟨h.os, h.tape, h.output, h.size, h.block⟩
theorem Turn.mono {own own' : Nat → Prop} {a w : World} (h : Turn own a w) (ho : ∀ g, own g → own' g) : Turn own' a w := ⟨h.os, h.tape, h.output, h.size, fun g hl hn => h.block g hl fun e => hn (ho g e)⟩

abbrev Qc := Ch × Value
def q0 : Qc := (ch0, .slice none 0 0)
def qAt (q : List Qc) (i : Nat) : Qc := q.getD i q0
def qcell (x : Qc) : List Value := [.int .i64 x.1.t, .int .i64 x.1.r, x.2]
def qcells (q : List Qc) : List Value := q.flatMap qcell
def qchs (q : List Qc) : List Ch := q.map (·.1)

theorem qcells_length (q : List Qc) : (qcells q).length = q.length * 3 := by
  induction q with
  | nil => rfl
  | cons x q ih => simp only [qcells, List.flatMap_cons, List.length_append] at *; rw [ih]; simp [qcell]; omega
theorem qcells_snoc (q : List Qc) (x : Qc) : qcells (q ++ [x]) = qcells q ++ qcell x := by simp [qcells]
theorem qchs_length (q : List Qc) : (qchs q).length = q.length := by simp [qchs]
theorem qchs_snoc (q : List Qc) (x : Qc) : qchs (q ++ [x]) = qchs q ++ [x.1] := by simp [qchs]
theorem qchs_at (q : List Qc) {i : Nat} (hi : i < q.length) : cAt (qchs q) i = (qAt q i).1 := by simp [cAt, qAt, qchs, hi]
theorem qAt_lt (q : List Qc) {i : Nat} (hi : i < q.length) : qAt q i = q[i] := by simp [qAt, hi]
theorem qAt_snoc_lt (q : List Qc) (x : Qc) {i : Nat} (hi : i < q.length) : qAt (q ++ [x]) i = qAt q i := by simp [qAt, List.getElem?_append_left hi]
theorem qAt_snoc_eq (q : List Qc) (x : Qc) : qAt (q ++ [x]) q.length = x := by simp [qAt]
theorem qAt_set_eq (q : List Qc) (x : Qc) {i : Nat} (hi : i < q.length) : qAt (q.set i x) i = x := by simp [qAt, hi]
theorem qAt_set_ne (q : List Qc) (x : Qc) {i j : Nat} (h : i ≠ j) : qAt (q.set i x) j = qAt q j := by simp [qAt, List.getElem?_set_ne h]
theorem qchs_set (q : List Qc) (x : Qc) (i : Nat) : qchs (q.set i x) = (qchs q).set i x.1 := by simp [qchs, List.map_set]

theorem qcells_get : ∀ (q : List Qc) (i : Nat), i < q.length → (qcells q)[i * 3]? = some (.int .i64 (qAt q i).1.t) ∧ (qcells q)[i * 3 + 1]? = some (.int .i64 (qAt q i).1.r) ∧ (qcells q)[i * 3 + 2]? = some (qAt q i).2
  | [], i, h => absurd h (Nat.not_lt_zero _)
  | x :: q, 0, _ => by simp [qcells, qcell, qAt]
  | x :: q, i + 1, h => by
    obtain ⟨h1, h2, h3⟩ := qcells_get q i (by simpa using h)
    have e : ∀ j, (qcells (x :: q))[j + 3]? = (qcells q)[j]? := fun j => by
      show (qcell x ++ qcells q)[j + 3]? = _
      rw [List.getElem?_append_right (by simp [qcell])]
      simp [qcell]
    have a : qAt (x :: q) (i + 1) = qAt q i := by simp [qAt]
    rw [a]
    refine ⟨?_, ?_, ?_⟩
    · rw [show (i + 1) * 3 = i * 3 + 3 by omega, e, h1]
    · rw [show (i + 1) * 3 + 1 = i * 3 + 1 + 3 by omega, e, h2]
    · rw [show (i + 1) * 3 + 2 = i * 3 + 2 + 3 by omega, e, h3]

/-- Three cells set: the whole element. -/
theorem qcells_set : ∀ (q : List Qc) (i : Nat) (x : Qc), i < q.length → (((qcells q).set (i * 3) (.int .i64 x.1.t)).set (i * 3 + 1) (.int .i64 x.1.r)).set (i * 3 + 2) x.2 = qcells (q.set i x)
  | [], i, x, h => absurd h (Nat.not_lt_zero _)
  | y :: q, 0, x, _ => by simp [qcells, qcell]
  | y :: q, i + 1, x, h => by
    have ih := qcells_set q i x (by simpa using h)
    have e : ∀ (j : Nat) (v : Value) (xs : List Value), (qcell y ++ xs).set (j + 3) v = qcell y ++ xs.set j v := fun j v xs => by
      rw [List.set_append_right _ _ (by simp [qcell])]
      simp [qcell]
    show (((qcell y ++ qcells q).set ((i + 1) * 3) _).set ((i + 1) * 3 + 1) _).set ((i + 1) * 3 + 2) _ = qcell y ++ qcells (q.set i x)
    rw [show (i + 1) * 3 = i * 3 + 3 by omega, e, show i * 3 + 3 + 1 = i * 3 + 1 + 3 by omega, e, show i * 3 + 3 + 2 = i * 3 + 2 + 3 by omega, e, ih]
/-- The list's cell alone. -/
theorem qcells_setL : ∀ (q : List Qc) (i : Nat) (c : Ch) (v : Value), i < q.length → c.t = (qAt q i).1.t → c.r = (qAt q i).1.r → (qcells q).set (i * 3 + 2) v = qcells (q.set i (c, v)) := fun q i c v hi ht hr => by
  rw [← qcells_set q i (c, v) hi]
  obtain ⟨h1, h2, h3⟩ := qcells_get q i hi
  have hl := qcells_length q
  have e1 : (qcells q).set (i * 3) (.int .i64 c.t) = qcells q := by
    rw [ht]
    refine List.ext_getElem? fun j => ?_
    by_cases e : i * 3 = j
    · subst e; rw [List.getElem?_set_self (by omega), h1]
    · rw [List.getElem?_set_ne e]
  have e2 : (qcells q).set (i * 3 + 1) (.int .i64 c.r) = qcells q := by
    rw [hr]
    refine List.ext_getElem? fun j => ?_
    by_cases e : i * 3 + 1 = j
    · subst e; rw [List.getElem?_set_self (by omega), h2]
    · rw [List.getElem?_set_ne e]
  rw [e1, e2]

/-- The store that is being built. -/
structure OwnQ (base : Nat) (w : World) (ov : Value) (q : List Qc) : Prop where
  row : w.ownsRow base 94 3 ov q.length (qcells q)
  lists : ∀ i, i < q.length → w.ownsRow base 123 2 (qAt q i).2 (qAt q i).1.l.length (vcells (qAt q i).1.l)
  apart : ∀ i, i < q.length → ∀ g, (qAt q i).2.ownBlock = some g → ov.ownBlock ≠ some g ∧ ∀ j, j < q.length → j ≠ i → (qAt q j).2.ownBlock ≠ some g

/-- The blocks of the store that is being built, and of the variable that holds it. -/
def qown (bp : Nat) (ov : Value) (q : List Qc) (g : Nat) : Prop := g = bp ∨ ov.ownBlock = some g ∨ ∃ i, i < q.length ∧ (qAt q i).2.ownBlock = some g

theorem OwnQ.nil (base : Nat) (w : World) : OwnQ base w (.slice none 0 0) [] :=
  ⟨World.ownsRow_nil _ _ _ _, fun i hi => absurd hi (Nat.not_lt_zero _), fun i hi => absurd hi (Nat.not_lt_zero _)⟩

theorem owns_keep {w w' : World} {base : Nat} {e : TypeId} {size : Nat} {v : Value} {n : Nat} {xs : List Value} (h : w.ownsRow base e size v n xs) (hk : ∀ g, v.ownBlock = some g → g < w.heap.size → w'.heap[g]? = w.heap[g]?) : w'.ownsRow base e size v n xs := by
  obtain ⟨h1, h2⟩ := h
  refine ⟨h1, ?_⟩
  rcases h2 with h2 | ⟨g, cap, cur, rfl, h4, h5, h6⟩
  · exact .inl h2
  · exact .inr ⟨g, cap, cur, rfl, h4, (hk g rfl (Array.getElem?_eq_some_iff.1 h5).1).trans h5, h6⟩
theorem owns_lt {w : World} {base : Nat} {e : TypeId} {size : Nat} {v : Value} {n : Nat} {xs : List Value} (h : w.ownsRow base e size v n xs) {g : Nat} (hg : v.ownBlock = some g) : base ≤ g ∧ g < w.heap.size := h.lt g hg

theorem OwnQ.keep {base : Nat} {w w' : World} {ov : Value} {q : List Qc} (h : OwnQ base w ov q) (hk : ∀ g, (ov.ownBlock = some g ∨ ∃ i, i < q.length ∧ (qAt q i).2.ownBlock = some g) → g < w.heap.size → w'.heap[g]? = w.heap[g]?) : OwnQ base w' ov q :=
  ⟨owns_keep h.row fun g hg hl => hk g (.inl hg) hl, fun i hi => owns_keep (h.lists i hi) fun g hg hl => hk g (.inr ⟨i, hi, hg⟩) hl, h.apart⟩
theorem OwnQ.stays {base : Nat} {w w' : World} {ov : Value} {q : List Qc} (h : OwnQ base w ov q) (hb : Below w.heap.size w w') : OwnQ base w' ov q := h.keep fun g _ hl => hb.block g hl
theorem OwnQ.base {base : Nat} {w : World} {ov : Value} {q : List Qc} (h : OwnQ base w ov q) {g : Nat} (hg : ov.ownBlock = some g ∨ ∃ i, i < q.length ∧ (qAt q i).2.ownBlock = some g) : base ≤ g ∧ g < w.heap.size := by
  rcases hg with hg | ⟨i, hi, hg⟩
  · exact owns_lt h.row hg
  · exact owns_lt (h.lists i hi) hg

/-- The outer row has turned in no list's block; the list of one chain is another one. -/
theorem OwnQ.setList {base : Nat} {w w' : World} {ov : Value} {q : List Qc} {c : Nat} {ch : Ch} {lv : Value} (h : OwnQ base w ov q) (hc : c < q.length) (ht : ch.t = (qAt q c).1.t) (hr : ch.r = (qAt q c).1.r)
    (hrow : w'.ownsRow base 94 3 ov q.length ((qcells q).set (c * 3 + 2) lv)) (hl : w'.ownsRow base 123 2 lv ch.l.length (vcells ch.l))
    (hlv : ∀ g, lv.ownBlock = some g → (qAt q c).2.ownBlock = some g ∨ w.heap.size ≤ g) (hk : ∀ g, g < w.heap.size → ov.ownBlock ≠ some g → (qAt q c).2.ownBlock ≠ some g → w'.heap[g]? = w.heap[g]?) : OwnQ base w' ov (q.set c (ch, lv)) := by
  have hlen : (q.set c (ch, lv)).length = q.length := by simp
  refine ⟨by rw [hlen, ← qcells_setL q c ch lv hc ht hr]; exact hrow, fun i hi => ?_, fun i hi g hg => ?_⟩
  · rw [hlen] at hi
    by_cases e : i = c
    · subst e
      rw [qAt_set_eq _ _ hi]
      exact hl
    · rw [qAt_set_ne _ _ (Ne.symm e)]
      exact owns_keep (h.lists i hi) fun g hg hgl => hk g hgl (h.apart i hi g hg).1 ((h.apart i hi g hg).2 c hc (Ne.symm e))
  · rw [hlen] at hi ⊢
    have hovl : ∀ g, ov.ownBlock = some g → g < w.heap.size := fun g hg => (owns_lt h.row hg).2
    have hLl : ∀ i, i < q.length → ∀ g, (qAt q i).2.ownBlock = some g → g < w.heap.size := fun i hi g hg => (owns_lt (h.lists i hi) hg).2
    by_cases e : i = c
    · subst e
      rw [qAt_set_eq _ _ hi] at hg
      refine ⟨fun e => ?_, fun j hj hne e => ?_⟩
      · rcases hlv g hg with e2 | e2
        · exact (h.apart i hi g e2).1 e
        · have := hovl g e; omega
      · rw [qAt_set_ne _ _ (Ne.symm hne)] at e
        rcases hlv g hg with e2 | e2
        · exact (h.apart i hi g e2).2 j hj hne e
        · have := hLl j hj g e; omega
    · rw [qAt_set_ne _ _ (Ne.symm e)] at hg
      refine ⟨(h.apart i hi g hg).1, fun j hj hne e2 => ?_⟩
      by_cases ej : j = c
      · subst ej
        rw [qAt_set_eq _ _ hj] at e2
        rcases hlv g e2 with e3 | e3
        · exact (h.apart i hi g hg).2 j hj hne e3
        · have := hLl i hi g hg; omega
      · rw [qAt_set_ne _ _ (Ne.symm ej)] at e2
        exact (h.apart i hi g hg).2 j hj hne e2

/-- One chain more, behind all. -/
theorem OwnQ.snoc {base : Nat} {w w5 w6 : World} {ov ov' lv : Value} {q : List Qc} {c : Ch} (h : OwnQ base w ov q) (h5 : Below w.heap.size w w5) (hl : w5.ownsRow base 123 2 lv c.l.length (vcells c.l)) (hlg : ∀ g, lv.ownBlock = some g → w.heap.size ≤ g)
    (hrow : w6.ownsRow base 94 3 ov' (q.length + 1) (qcells q ++ [.int .i64 c.t, .int .i64 c.r, lv])) (hk : ∀ g, g < w5.heap.size → ov.ownBlock ≠ some g → w6.heap[g]? = w5.heap[g]?) (hov : ∀ g, ov'.ownBlock = some g → ov.ownBlock = some g ∨ w5.heap.size ≤ g) :
    OwnQ base w6 ov' (q ++ [(c, lv)]) := by
  have hz := h5.size
  have hlt : ∀ g, lv.ownBlock = some g → g < w5.heap.size := fun g hg => (owns_lt hl hg).2
  have hLt : ∀ i, i < q.length → ∀ g, (qAt q i).2.ownBlock = some g → g < w.heap.size := fun i hi g hg => (owns_lt (h.lists i hi) hg).2
  have hovt : ∀ g, ov.ownBlock = some g → g < w.heap.size := fun g hg => (owns_lt h.row hg).2
  have hlen : (q ++ [(c, lv)]).length = q.length + 1 := by simp
  refine ⟨by rw [hlen, qcells_snoc]; exact hrow, fun i hi => ?_, fun i hi g hg => ?_⟩
  · rw [hlen] at hi
    by_cases e : i = q.length
    · subst e
      rw [qAt_snoc_eq]
      exact owns_keep hl fun g hg hgl => hk g hgl fun e => by have := hlg g hg; have := hovt g e; omega
    · have hi' : i < q.length := by omega
      rw [qAt_snoc_lt _ _ hi']
      refine owns_keep (h.lists i hi') fun g hg hgl => ?_
      rw [hk g (by omega) (h.apart i hi' g hg).1, h5.block g hgl]
  · rw [hlen] at hi ⊢
    by_cases e : i = q.length
    · subst e
      rw [qAt_snoc_eq] at hg
      have g1 := hlg g hg
      have g2 := hlt g hg
      refine ⟨fun e => ?_, fun j hj hne e => ?_⟩
      · rcases hov g e with e | e
        · have := hovt g e; omega
        · omega
      · rw [qAt_snoc_lt _ _ (by omega)] at e
        have := hLt j (by omega) g e
        omega
    · have hi' : i < q.length := by omega
      rw [qAt_snoc_lt _ _ hi'] at hg
      have g1 := hLt i hi' g hg
      obtain ⟨a1, a2⟩ := h.apart i hi' g hg
      refine ⟨fun e' => ?_, fun j hj hne e' => ?_⟩
      · rcases hov g e' with e' | e'
        · exact a1 e'
        · omega
      · by_cases ej : j = q.length
        · subst ej
          rw [qAt_snoc_eq] at e'
          have := hlg g e'
          omega
        · rw [qAt_snoc_lt _ _ (by omega)] at e'
          exact a2 j (by omega) hne e'

/-- Chains that stand one behind the other change places. -/
def swp (q : List Qc) (i : Nat) : List Qc := (q.set (i + 1) (qAt q i)).set i (qAt q (i + 1))
theorem swp_length (q : List Qc) (i : Nat) : (swp q i).length = q.length := by simp [swp]
theorem swp_lo (q : List Qc) {i : Nat} (hi : i + 1 < q.length) : qAt (swp q i) i = qAt q (i + 1) := by rw [swp, qAt_set_eq _ _ (by simp; omega)]
theorem swp_hi (q : List Qc) {i : Nat} (hi : i + 1 < q.length) : qAt (swp q i) (i + 1) = qAt q i := by rw [swp, qAt_set_ne _ _ (by omega), qAt_set_eq _ _ hi]
theorem swp_other (q : List Qc) {i j : Nat} (h1 : j ≠ i) (h2 : j ≠ i + 1) : qAt (swp q i) j = qAt q j := by rw [swp, qAt_set_ne _ _ (by omega), qAt_set_ne _ _ (by omega)]

theorem swp_at (q : List Qc) {i : Nat} (hi : i + 1 < q.length) (j : Nat) (hj : j < q.length) : ∃ j', j' < q.length ∧ qAt (swp q i) j = qAt q j' ∧ (j' = if j = i then i + 1 else if j = i + 1 then i else j) := by
  by_cases e : j = i
  · subst e
    exact ⟨j + 1, hi, swp_lo q hi, by simp⟩
  · by_cases e2 : j = i + 1
    · subst e2
      exact ⟨i, by omega, swp_hi q hi, by simp⟩
    · exact ⟨j, hj, swp_other q e e2, by simp [e, e2]⟩

theorem OwnQ.swap {base : Nat} {w w' : World} {ov : Value} {q : List Qc} {i : Nat} (h : OwnQ base w ov q) (hi : i + 1 < q.length) (hrow : w'.ownsRow base 94 3 ov q.length (qcells (swp q i))) (hk : ∀ g, g < w.heap.size → ov.ownBlock ≠ some g → w'.heap[g]? = w.heap[g]?) : OwnQ base w' ov (swp q i) := by
  refine ⟨by rw [swp_length]; exact hrow, fun j hj => ?_, fun j hj g hg => ?_⟩
  · rw [swp_length] at hj
    obtain ⟨j', hj', e, _⟩ := swp_at q hi j hj
    rw [e]
    exact owns_keep (h.lists j' hj') fun g hg hgl => hk g hgl (h.apart j' hj' g hg).1
  · rw [swp_length] at hj ⊢
    obtain ⟨j', hj', e, e1⟩ := swp_at q hi j hj
    rw [e] at hg
    refine ⟨(h.apart j' hj' g hg).1, fun k hk' hne => ?_⟩
    obtain ⟨k', hk2, e3, e4⟩ := swp_at q hi k hk'
    rw [e3]
    refine (h.apart j' hj' g hg).2 k' hk2 fun e5 => ?_
    rw [e4, e1] at e5
    by_cases a1 : j = i <;> by_cases a2 : j = i + 1 <;> by_cases a3 : k = i <;> by_cases a4 : k = i + 1 <;> simp [a1, a2, a3, a4] at e5 <;> omega

end Go.Proofs.YtmecbppblbmchaaGreatDoor
