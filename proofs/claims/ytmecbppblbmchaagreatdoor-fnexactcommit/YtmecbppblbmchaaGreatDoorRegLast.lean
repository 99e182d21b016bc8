import Derived.Test.YtmecbppblbmchaaGreatDoorMOk
import Derived.Test.YtmecbppblbmchaaGreatDoorLastV
import Derived.Deep.RegionHeld3
import Derived.Deep.AppendLies
/- The program's MgrOk. -/
namespace Go.Proofs.YtmecbppblbmchaaGreatDoor
open Go.ChangeShapes Go.WideShapes Go.ChangeAt Go.RowKit Go.Sort
set_option linter.unusedVariables false
set_option maxRecDepth 100000
attribute [local go_sem ↓] Go.wp_at_zero Go.wp_at_succ

/-- The box of a state: what is read of it. -/
structure MBox (w : World) (b : Nat) (vs : Value) (c n : Int) (vt ve : Value) : Prop where
  s : w.cell? ⟨b, 0, none⟩ = some vs
  c : w.cell? ⟨b, 1, none⟩ = some (.int .i64 c)
  n : w.cell? ⟨b, 2, none⟩ = some (.int .i64 n)
  x : w.cell? ⟨b, 3, none⟩ = some vt
  h : w.cell? ⟨b, 4, none⟩ = some ve
theorem MBox.stays {w w' : World} {b : Nat} {vs : Value} {c n : Int} {vt ve : Value} (h : MBox w b vs c n vt ve) (hb : Below w.heap.size w w') : MBox w' b vs c n vt ve :=
  ⟨cell_stays hb h.s, cell_stays hb h.c, cell_stays hb h.n, cell_stays hb h.x, cell_stays hb h.h⟩
theorem MBox.new (w : World) (vs : Value) (c n : Int) (vt ve : Value) (T : TypeId) : MBox (w.alloc (Obj.cells #[vs, .int .i64 c, .int .i64 n, vt, ve] T)) w.heap.size vs c n vt ve := ⟨by simp, by simp, by simp, by simp, by simp⟩

set_option maxHeartbeats 1000000 in
theorem txsOk_any (vs vt ve : Value) (m : Md) (w : World) {lo hi : Nat} (h : TxsAt lo hi w vt m.x) :
    Calls Tryz.prog 108 #[.agg #[vs, .int .i64 m.c, .int .i64 m.n, vt, ve]] w fun e w' => Says e (txsOk m) ∧ Below w.heap.size w w' := by
  obtain ⟨a, cap, rfl, hm, hc⟩ := h
  unfold maxLen at hm
  have hbx : Below w.heap.size w (w.alloc (Obj.cells #[vs, .int .i64 m.c, .int .i64 m.n, Value.slice a m.x.length cap, ve] 36)) := (Below.refl _ _).alloc (Nat.le_refl _) _
  by_cases h2 : 8 < m.x.length
  · clear hc
    go_enter Tryz.func108, Tryz.ntmps108
    go_wp2
    go_ret
    exact ⟨says_no fun h => by have := h.1; omega, hbx⟩
  · go_enter Tryz.func108, Tryz.ntmps108
    go_wp2
    go_loopw [3, 13] (fun x i wr => ∃ k : Nat, k ≤ m.x.length ∧ i = .int .i64 k ∧ x = .int .i64 (if k = 0 then 0 else (tAt m.x (k - 1)).i) ∧ Below w.heap.size w wr ∧ MBox wr w.heap.size vs m.c m.n (.slice a m.x.length cap) ve ∧ ∀ j, j < k → txOk m j) (fun _ i _ => m.x.length - (intOf i).toNat)
    case atStart => exact ⟨0, Nat.zero_le _, rfl, rfl, hbx, MBox.new _ _ _ _ _ _ _, fun j hj => absurd hj (Nat.not_lt_zero _)⟩
    case round =>
      rename World => wo
      obtain ⟨k, hk, rfl, rfl, hb, hbox, hs⟩ := hrel
      generalize hx : (if k = 0 then (0 : Int) else (tAt m.x (k - 1)).i) = x
      have HX : Hid ((if k = 0 then (0 : Int) else (tAt m.x (k - 1)).i) = x) := hx
      clear hx
      by_cases hlt : k < m.x.length
      · obtain ⟨b, off, rfl, hlo, hhi, hcc⟩ := hc (by omega)
        obtain ⟨c0, c1, ca, cb, c2, c3⟩ := hcc k hlt
        replace c0 := cell_stays hb c0
        replace c1 := cell_stays hb c1
        replace c2 := cell_stays hb c2
        replace c3 := c3.stays hb
        have i0 : (0 : Int) ≤ (k : Int) := by omega
        have i1 : (k : Int) < (m.x.length : Int) := by omega
        have q1 := hbox.c
        have q2 := hbox.n
        clear hc hcc
        have hA : Below wo.heap.size wo (wo.alloc (Obj.cells #[Value.int IntKind.i64 (tAt m.x k).i, Value.int IntKind.i64 (tAt m.x k).s, Value.slice ca (tAt m.x k).w.length cb] 97)) := (Below.refl _ _).alloc (Nat.le_refl _) _
        have hBA := hb.trans (hA.mono hb.size)
        have q1' := cell_stays hA q1
        have q2' := cell_stays hA q2
        have hprev : ∀ y, txOk m k → y ≤ x → y < (tAt m.x k).i := fun y hy hle => by
          have h5 := HX.out
          by_cases hz : k = 0
          · rw [if_pos hz] at h5; have := hy.1; omega
          · rw [if_neg hz] at h5; have := hy.2.2.1 (by omega); omega
        by_cases h3 : (tAt m.x k).i ≤ x
        · go_wp2_with fail
          go_ret
          exact ⟨says_no fun h => by have := hprev _ (h.2 k hlt) h3; omega, hBA⟩
        · by_cases h4 : m.n ≤ (tAt m.x k).i
          · go_wp2_with fail
            go_ret
            exact ⟨says_no fun h => by have := (h.2 k hlt).2.1; omega, hBA⟩
          · by_cases h5 : (tAt m.x k).s < 0
            · go_wp2_with fail
              go_ret
              exact ⟨says_no fun h => by have := (h.2 k hlt).2.2.2.1; omega, hBA⟩
            · by_cases h6 : m.c < (tAt m.x k).s
              · go_wp2_with fail
                go_ret
                exact ⟨says_no fun h => by have := (h.2 k hlt).2.2.2.2.1; omega, hBA⟩
              · by_cases h7 : rowsOk (tAt m.x k).w
                · go_wp2_with (go_at_call 139; refine (writesOk_any _ _ _ (c3.stays hA)).mono ?_; rintro e w1 ⟨⟨q, rfl, hq⟩, hb1⟩; obtain rfl := hq.2 h7; clear hq; have r0 : w1.cell? ⟨wo.heap.size, 0, none⟩ = some (.int .i64 (tAt m.x k).i) := cell_stays hb1 (by simp))
                  have hlast : txOk m k := by
                    have h8 := HX.out
                    refine ⟨?_, by omega, fun hz => ?_, by omega, by omega, h7⟩
                    · by_cases hz : k = 0
                      · rw [if_pos hz] at h8; omega
                      · rw [if_neg hz] at h8; have := (hs (k - 1) (by omega)).1; omega
                    · rw [if_neg (by omega)] at h8; omega
                  go_roundw
                  case rel => exact ⟨k + 1, by omega, by go_num, by simp, hBA.trans (hb1.mono hBA.size), (hbox.stays hA).stays hb1, upto_succ hs hlast⟩
                  case measure => simp [intOf]; omega
                · go_wp2_with (go_at_call 139; refine (writesOk_any _ _ _ (c3.stays hA)).mono ?_; rintro e w1 ⟨⟨q, rfl, hq⟩, hb1⟩; obtain rfl := says_false hq h7; clear hq)
                  go_ret
                  exact ⟨says_no fun h => h7 (h.2 k hlt).2.2.2.2.2, hBA.trans (hb1.mono hBA.size)⟩
      · go_wp2
        go_ret
        exact ⟨says_yes ⟨by omega, fun j hj => hs j (by omega)⟩, hb⟩

theorem implStoreOk_yes (v : Value) (l : List Ch) (w : World) {lo hi : Nat} (h : ChainsAt lo hi w v l) (ho : storeOk l) : Calls Tryz.prog 105 #[.agg #[v]] w fun e w' => e = .returned (.bool true) ∧ Below w.heap.size w w' := by
  refine (implStoreOk_any v l w h).mono ?_
  rintro e w' ⟨⟨q, rfl, hq⟩, hb⟩
  obtain rfl := hq.2 ho
  exact ⟨rfl, hb⟩
theorem implStoreOk_no (v : Value) (l : List Ch) (w : World) {lo hi : Nat} (h : ChainsAt lo hi w v l) (ho : ¬ storeOk l) : Calls Tryz.prog 105 #[.agg #[v]] w fun e w' => e = .returned (.bool false) ∧ Below w.heap.size w w' := by
  refine (implStoreOk_any v l w h).mono ?_
  rintro e w' ⟨⟨q, rfl, hq⟩, hb⟩
  obtain rfl := says_false hq ho
  exact ⟨rfl, hb⟩
theorem txsOk_yes (vs vt ve : Value) (m : Md) (w : World) {lo hi : Nat} (h : TxsAt lo hi w vt m.x) (ho : txsOk m) : Calls Tryz.prog 108 #[.agg #[vs, .int .i64 m.c, .int .i64 m.n, vt, ve]] w fun e w' => e = .returned (.bool true) ∧ Below w.heap.size w w' := by
  refine (txsOk_any vs vt ve m w h).mono ?_
  rintro e w' ⟨⟨q, rfl, hq⟩, hb⟩
  obtain rfl := hq.2 ho
  exact ⟨rfl, hb⟩
theorem txsOk_no (vs vt ve : Value) (m : Md) (w : World) {lo hi : Nat} (h : TxsAt lo hi w vt m.x) (ho : ¬ txsOk m) : Calls Tryz.prog 108 #[.agg #[vs, .int .i64 m.c, .int .i64 m.n, vt, ve]] w fun e w' => e = .returned (.bool false) ∧ Below w.heap.size w w' := by
  refine (txsOk_any vs vt ve m w h).mono ?_
  rintro e w' ⟨⟨q, rfl, hq⟩, hb⟩
  obtain rfl := says_false hq ho
  exact ⟨rfl, hb⟩

end Go.Proofs.YtmecbppblbmchaaGreatDoor

/- impl.copyMgr: a copy of the whole that is owned, behind a pointer. -/
namespace Go.Proofs.YtmecbppblbmchaaGreatDoor
open Go.ChangeShapes Go.WideShapes Go.ChangeAt Go.RowKit Go.Maps Go.Sort
set_option linter.unusedVariables false
set_option maxRecDepth 100000
attribute [local go_sem ↓] Go.wp_at_zero Go.wp_at_succ

/-- n elements of six cells. -/
def hexa (l : List Ed) : List Value := l.flatMap fun x => [.int .i64 x.k, .int .i64 x.x, .int .i64 x.t, .int .i64 x.r, .int .i64 x.v, .int .i64 x.a]
theorem hexa_length (l : List Ed) : (hexa l).length = l.length * 6 := by
  induction l with
  | nil => rfl
  | cons x l ih => simp only [hexa, List.flatMap_cons, List.length_append, List.length_cons] at *; rw [ih]; simp; omega
theorem hexa_get : ∀ (l : List Ed) (i : Nat), i < l.length → (hexa l)[i * 6]? = some (.int .i64 (eAt l i).k) ∧ (hexa l)[i * 6 + 1]? = some (.int .i64 (eAt l i).x) ∧ (hexa l)[i * 6 + 2]? = some (.int .i64 (eAt l i).t) ∧ (hexa l)[i * 6 + 3]? = some (.int .i64 (eAt l i).r) ∧ (hexa l)[i * 6 + 4]? = some (.int .i64 (eAt l i).v) ∧ (hexa l)[i * 6 + 5]? = some (.int .i64 (eAt l i).a)
  | [], i, h => absurd h (Nat.not_lt_zero _)
  | x :: l, 0, h => by simp [hexa, eAt]
  | x :: l, i + 1, h => by
    obtain ⟨h0, h1, h2, h3, h4, h5⟩ := hexa_get l i (by simpa using h)
    have e : hexa (x :: l) = [.int .i64 x.k, .int .i64 x.x, .int .i64 x.t, .int .i64 x.r, .int .i64 x.v, .int .i64 x.a] ++ hexa l := by simp [hexa]
    have ee : eAt (x :: l) (i + 1) = eAt l i := by simp [eAt]
    rw [e, ee]
    refine ⟨?_, ?_, ?_, ?_, ?_, ?_⟩
    · rw [List.getElem?_append_right (by simp; omega), show (i + 1) * 6 - _ = i * 6 by simp; omega]; exact h0
    · rw [List.getElem?_append_right (by simp; omega), show (i + 1) * 6 + 1 - _ = i * 6 + 1 by simp; omega]; exact h1
    · rw [List.getElem?_append_right (by simp; omega), show (i + 1) * 6 + 2 - _ = i * 6 + 2 by simp; omega]; exact h2
    · rw [List.getElem?_append_right (by simp; omega), show (i + 1) * 6 + 3 - _ = i * 6 + 3 by simp; omega]; exact h3
    · rw [List.getElem?_append_right (by simp; omega), show (i + 1) * 6 + 4 - _ = i * 6 + 4 by simp; omega]; exact h4
    · rw [List.getElem?_append_right (by simp; omega), show (i + 1) * 6 + 5 - _ = i * 6 + 5 by simp; omega]; exact h5
theorem hexa_one (l : List Ed) : ∀ v ∈ hexa l, v.oneCell' = true := by
  intro v hv
  simp [hexa] at hv
  obtain ⟨x, _, h⟩ := hv
  rcases h with rfl | rfl | rfl | rfl | rfl | rfl <;> rfl

theorem EvsAt.cells {lo hi : Nat} {w : World} {a : Option Addr} {cap : Nat} {l : List Ed} (h : EvsAt lo hi w (.slice a l.length cap) l) : CellsAt w a l.length (hexa l) := fun hp => by
  obtain ⟨a', cap', e, hm, hc⟩ := h
  injection e with e1 e2 e3
  subst e1
  obtain ⟨b, off, rfl, _, _, hcc⟩ := hc hp
  refine ⟨b, off, rfl, fun j v hj => ?_⟩
  have hjl : j < l.length * 6 := by rw [← hexa_length]; exact (List.getElem?_eq_some_iff.1 hj).1
  obtain ⟨g0, g1, g2, g3, g4, g5⟩ := hexa_get l (j / 6) (by omega)
  obtain ⟨k0, k1, k2, k3, k4, k5⟩ := hcc (j / 6) (by omega)
  have h6 : j % 6 = 0 ∨ j % 6 = 1 ∨ j % 6 = 2 ∨ j % 6 = 3 ∨ j % 6 = 4 ∨ j % 6 = 5 := by omega
  rcases h6 with e | e | e | e | e | e
  · rw [show j = j / 6 * 6 by omega] at hj ⊢
    rw [g0] at hj; cases hj; exact k0
  · rw [show j = j / 6 * 6 + 1 by omega] at hj ⊢
    rw [g1] at hj; cases hj; exact k1
  · rw [show j = j / 6 * 6 + 2 by omega] at hj ⊢
    rw [g2] at hj; cases hj; exact k2
  · rw [show j = j / 6 * 6 + 3 by omega] at hj ⊢
    rw [g3] at hj; cases hj; exact k3
  · rw [show j = j / 6 * 6 + 4 by omega] at hj ⊢
    rw [g4] at hj; cases hj; exact k4
  · rw [show j = j / 6 * 6 + 5 by omega] at hj ⊢
    rw [g5] at hj; cases hj; exact k5

theorem evs_block {lo hi : Nat} {w : World} {a : Option Addr} {cap : Nat} {l : List Ed} (h : EvsAt lo hi w (.slice a l.length cap) l) (hn : l.length ≤ 1048576) :
    Calls Tryz.prog 67 #[.slice a l.length cap] w fun e w' => e = .returned (.slice (some ⟨w.heap.size, 0, none⟩) l.length l.length) ∧ OwnE w' w.heap.size l ∧ Below w.heap.size w w' := by
  refine (copyEv_block a l.length cap (hexa l) w hn (hexa_length l) (hexa_one l) h.cells).mono ?_
  rintro e w' ⟨rfl, hB, hb⟩
  have hr := RowOf.of_cells hB
  rw [hexa_length] at hr
  refine ⟨rfl, ⟨_, hr, fun i hi => ?_⟩, hb⟩
  obtain ⟨g0, g1, g2, g3, g4, g5⟩ := hexa_get l i hi
  simp [List.getD, g0, g1, g2, g3, g4, g5]

theorem rows_block {lo hi : Nat} {w : World} {a : Option Addr} {cap : Nat} {l : List Rw} (h : RowsAt lo hi w (.slice a l.length cap) l) (hn : l.length ≤ 1048576) :
    Calls Tryz.prog 68 #[.slice a l.length cap] w fun e w' => e = .returned (.slice (some ⟨w.heap.size, 0, none⟩) l.length l.length) ∧ OwnW w' w.heap.size l ∧ Below w.heap.size w w' := by
  have hc : CellsAt w a l.length (tri l.length (fun i => .int .i64 (rAt l i).t) (fun i => .int .i64 (rAt l i).r) (fun i => .int .i64 (rAt l i).v)) := fun hp => by
    obtain ⟨a', cap', e, hm, hc⟩ := h
    injection e with e1 e2 e3
    subst e1
    obtain ⟨b, off, rfl, _, _, hcc⟩ := hc hp
    exact ⟨b, off, rfl, tri_cells hcc⟩
  refine (copyRow_block a l.length cap _ w hn (tri_length _ _ _ _) (tri_one fun i hi => ⟨rfl, rfl, rfl⟩) hc).mono ?_
  rintro e w' ⟨rfl, hB, hb⟩
  have hr := RowOf.of_cells hB
  rw [tri_length] at hr
  refine ⟨rfl, ⟨_, hr, fun i hi => ?_⟩, hb⟩
  obtain ⟨g0, g1, g2⟩ := tri_get (fun i => Value.int IntKind.i64 (rAt l i).t) (fun i => Value.int IntKind.i64 (rAt l i).r) (fun i => Value.int IntKind.i64 (rAt l i).v) l.length i hi
  simp only [List.getD, g0, g1, g2, Option.getD_some]
  exact ⟨trivial, trivial, trivial⟩

end Go.Proofs.YtmecbppblbmchaaGreatDoor

/- A region that draws its order and whose last operation waits for all others: the others first, in whatever order, then the last one. So what is held of the world need not hold behind the last one (a store into a cell that the region reads). -/
namespace Go.Proofs.YtmecbppblbmchaaGreatDoor
set_option linter.unusedVariables false

/-- What is asked behind the others: the last operation, and what was asked. -/
def lastQ (P : Program) (ops : Array Oper) (Q : Exit → Act → World → Prop) (n : Nat) : Exit → Act → World → Prop
  | .normal, a, w => wpOp P ops Q n (fun a w => Q .normal a w) a w
  | e, a, w => Q e a w

/-- Each operation but the last is waited for by a later one; each waits for earlier ones alone. -/
def lastCert (md : Region.Mode) (ops : Array Oper) : Bool :=
  ((List.range (ops.size - 1)).all fun j => (List.range ops.size).any fun s => decide (j < s) && (((ops[s]?).map fun o => o.after.any fun e => Region.binds md e && e.on == j).getD false)) &&
  ((List.range ops.size).all fun s => ((ops[s]?).map fun o => (o.after.all fun e => decide (e.on < s)) && (match o.guard with | some (g, _) => decide (g < s) | none => true)).getD true)

section
variable {P : Program} {ops ops' : Array Oper} {Q : Exit → Act → World → Prop} {md : Region.Mode}

theorem lastCert_waits (h : lastCert md ops = true) {j : Nat} (hj : j < ops.size - 1) : ∃ s o e, j < s ∧ ops[s]? = some o ∧ e ∈ o.after ∧ Region.binds md e = true ∧ e.on = j := by
  simp only [lastCert, Bool.and_eq_true, List.all_eq_true, List.mem_range] at h
  have h1 := h.1 j hj
  simp only [List.any_eq_true, List.mem_range, Bool.and_eq_true, decide_eq_true_eq] at h1
  obtain ⟨s, hs, hjs, h2⟩ := h1
  cases ho : ops[s]? with
  | none => rw [ho] at h2; simp at h2
  | some o =>
    rw [ho] at h2
    simp only [Option.map_some, Option.getD_some, Array.any_eq_true] at h2
    obtain ⟨i, hi, h3⟩ := h2
    simp only [Bool.and_eq_true, beq_iff_eq] at h3
    exact ⟨s, o, o.after[i], hjs, ho, Array.getElem_mem hi, h3.1, h3.2⟩

theorem lastCert_back (h : lastCert md ops = true) {s : Nat} {o : Oper} (ho : ops[s]? = some o) : (∀ e ∈ o.after, e.on < s) ∧ ∀ g b, o.guard = some (g, b) → g < s := by
  simp only [lastCert, Bool.and_eq_true, List.all_eq_true, List.mem_range] at h
  have hlt : s < ops.size := (Array.getElem?_eq_some_iff.1 ho).1
  have h1 := h.2 s hlt
  rw [ho] at h1
  simp only [Option.map_some, Option.getD_some, Bool.and_eq_true, Array.all_eq_true_iff_forall_mem, decide_eq_true_eq] at h1
  refine ⟨h1.1, fun g b hg => ?_⟩
  have h2 := h1.2
  rw [hg] at h2
  simpa using h2

/-- What is listed waits for what is listed. -/
def Shutdown (md : Region.Mode) (ops : Array Oper) (listed : Array Bool) : Prop := ∀ j o, ops[j]? = some o → listed.getD j false = true → ∀ e ∈ o.after, Region.binds md e = true → listed.getD e.on false = true

theorem getD_push (l : Array Bool) (j : Nat) (d : Bool) (h : j < l.size) : (l.push false).getD j d = l.getD j d := by
  have hn : j ≠ l.size := Nat.ne_of_lt h
  simp [Array.getElem?_push, hn]
theorem getD_push_false (l : Array Bool) (j : Nat) : (l.push false).getD j false = l.getD j false := by
  by_cases h : j < l.size
  · exact getD_push l j false h
  · by_cases e : j = l.size
    · subst e; simp
    · simp [Array.getElem?_push, e]

theorem pop_get (hp : ops' = ops.pop) {j : Nat} (hj : j < ops'.size) : ops'[j]? = ops[j]? := by
  subst hp
  simp only [Array.size_pop] at hj
  simp [hj]

theorem ready_pop (hp : ops' = ops.pop) {listed : Array Bool} (hl : listed.size = ops'.size) {j : Nat} (hj : j < ops'.size) : j ∈ Region.ready md ops (listed.push false) ↔ j ∈ Region.ready md ops' listed := by
  rw [mem_ready, mem_ready, getD_push _ _ _ (by omega), pop_get hp hj]
  simp only [getD_push_false]

theorem ready_last {listed : Array Bool} {n : Nat} {o : Oper} (ho : ops[n]? = some o) (hl : listed.size = n) : n ∈ Region.ready md ops (listed.push false) ↔ ∀ e ∈ o.after, Region.binds md e = true → listed.getD e.on false = true := by
  rw [mem_ready]
  subst hl
  constructor
  · rintro ⟨_, o', ho', h⟩
    rw [ho] at ho'
    cases ho'
    intro e he hb
    have := h e he hb
    rwa [getD_push_false] at this
  · intro h
    refine ⟨by simp, o, ho, fun e he hb => ?_⟩
    rw [getD_push_false]
    exact h e he hb

/-- Where the last one may come up all others have. -/
theorem all_listed (hc : lastCert md ops = true) {n : Nat} (hn : ops.size = n + 1) {listed : Array Bool} (hl : listed.size = n) (hd : Shutdown md ops listed) {o : Oper} (ho : ops[n]? = some o) (hr : ∀ e ∈ o.after, Region.binds md e = true → listed.getD e.on false = true) :
    ∀ d j, j + d + 1 = n → listed.getD j false = true := by
  intro d
  induction d using Nat.strongRecOn with
  | _ d ih =>
    intro j hj
    obtain ⟨s, os, e, hs, hos, he, hb, hon⟩ := lastCert_waits hc (j := j) (by omega)
    have hlt : s < ops.size := (Array.getElem?_eq_some_iff.1 hos).1
    by_cases hsn : s = n
    · subst hsn
      rw [ho] at hos
      cases hos
      rw [← hon]
      exact hr e he hb
    · have h1 := ih (n - s - 1) (by omega) s (by omega)
      rw [← hon]
      exact hd s os hos h1 e he hb

/-- Where none of the others may come up all others have. -/
theorem none_ready (hp : ops' = ops.pop) (hc : lastCert md ops = true) {listed : Array Bool} (hl : listed.size = ops'.size) (hr : Region.ready md ops' listed = []) (hs : ops.size = ops'.size + 1) :
    ∀ j, j < ops'.size → listed.getD j false = true := by
  intro j
  induction j using Nat.strongRecOn with
  | _ j ih =>
    intro hj
    cases h : listed.getD j false with
    | true => rfl
    | false =>
      exfalso
      have hlt : j < ops.size := by omega
      have ho : ops[j]? = some ops[j] := Array.getElem?_eq_getElem hlt
      have : j ∈ Region.ready md ops' listed := by
        rw [mem_ready]
        refine ⟨?_, ops[j], (pop_get hp hj).trans ho, fun e he hb => ih e.on ((lastCert_back hc ho).1 e he) (Nat.lt_trans ((lastCert_back hc ho).1 e he) hj)⟩
        have hjl : j < listed.size := by omega
        simp [hjl] at h ⊢
        exact h
      rw [hr] at this
      cases this

theorem Oper.wp_lastQ {o : Oper} {a : Act} {w : World} {K : Act → World → Prop} {n : Nat} (h : o.wp P a w K (lastQ P ops Q n)) : o.wp P a w K Q := by
  unfold Oper.wp at *
  generalize (execOp a.eval o).run P w = r at *
  cases r with
  | ok x w' =>
    cases x <;> simp only [Oper.upon] at h ⊢ <;>
      first
        | exact h
        | exact Calls.mono h (fun e w'' he => by cases e <;> first | exact he | (obtain ⟨a, w, ha⟩ := he; exact ⟨a, w, ha⟩))
  | halt x w' => cases x <;> simp only [Oper.upon] at h ⊢ <;> exact h

theorem wanted_pop (hp : ops' = ops.pop) (hc : lastCert md ops = true) {i : Nat} {o : Oper} (hi : i < ops'.size) (ho : ops[i]? = some o) (t : Array Value) : Region.wanted o (yielded ops' t) = Region.wanted o (yielded ops t) := by
  unfold Region.wanted
  cases hg : o.guard with
  | none => rfl
  | some gw =>
    obtain ⟨g, want⟩ := gw
    have := (lastCert_back hc ho).2 g want hg
    have e : yielded ops' t g = yielded ops t g := by unfold yielded; rw [pop_get hp (by omega)]
    simp only [e]

theorem wpOp_pop (hp : ops' = ops.pop) (hc : lastCert md ops = true) {i n : Nat} (hi : i < ops'.size) {K K' : Act → World → Prop} (hK : ∀ a w, K a w → K' a w) {a : Act} {w : World} (h : wpOp P ops' (lastQ P ops Q n) i K a w) : wpOp P ops Q i K' a w := by
  refine wpOp_mono hK ?_
  unfold wpOp at *
  rw [pop_get hp hi] at h
  cases ho : ops[i]? with
  | none => simpa [ho] using h
  | some o =>
    simp only [ho] at h ⊢
    rw [wanted_pop hp hc hi ho] at h
    by_cases hw : Region.wanted o (yielded ops a.tmps) = true
    · simp only [hw, if_true] at h ⊢
      rcases h with h | ⟨h1, a', w', h2⟩
      · exact .inl (Oper.wp_lastQ h)
      · exact .inr ⟨h1, a', w', h2⟩
    · simp only [hw] at h ⊢
      exact h

theorem wpAny_last (hp : ops' = ops.pop) (hc : lastCert md ops = true) (hs : ops.size = ops'.size + 1) :
    ∀ (fuel : Nat) (listed : Array Bool) (a : Act) (w : World), listed.size = ops'.size → Shutdown md ops listed → wpAny P md ops' (lastQ P ops Q ops'.size) fuel listed a w → wpAny P md ops Q (fuel + 1) (listed.push false) a w := by
  have hn : ops'.size < ops.size := by omega
  have ho : ops[ops'.size]? = some ops[ops'.size] := Array.getElem?_eq_getElem hn
  have atEnd : ∀ (fuel : Nat) (listed : Array Bool) (a : Act) (w : World), listed.size = ops'.size → (∀ j, j < ops'.size → listed.getD j false = true) → lastQ P ops Q ops'.size .normal a w → wpOp P ops Q ops'.size (wpAny P md ops Q fuel ((listed.push false).setIfInBounds ops'.size true)) a w := fun fuel listed a w hl hall hq => by
    refine wpOp_mono (fun a w h => wpAny_done ?_ h fuel) hq
    rw [List.eq_nil_iff_forall_not_mem]
    intro j hj
    rw [mem_ready] at hj
    obtain ⟨h1, o', ho', _⟩ := hj
    have hjl : j < ops.size := (Array.getElem?_eq_some_iff.1 ho').1
    by_cases e : j = ops'.size
    · subst e
      simp [hl] at h1
    · rw [getD_set_ne true (Ne.symm e), getD_push _ _ _ (by omega)] at h1
      have h2 := hall j (by omega)
      have h3 : j < listed.size := by omega
      simp [h3] at h1 h2
      rw [h1] at h2
      cases h2
  intro fuel
  induction fuel with
  | zero =>
    intro listed a w hl hd h
    obtain ⟨h1, h2⟩ := h
    have hall := none_ready hp hc hl h1 hs
    have hrd : ops'.size ∈ Region.ready md ops (listed.push false) := (ready_last ho hl).2 fun e he hb => hall _ ((lastCert_back hc ho).1 e he)
    refine ⟨fun h => (by rw [h] at hrd; cases hrd), fun i hi => ?_⟩
    have hil : i < ops.size := by obtain ⟨_, o, ho, _⟩ := mem_ready.1 hi; exact (Array.getElem?_eq_some_iff.1 ho).1
    by_cases e : i = ops'.size
    · subst e
      exact atEnd 0 listed a w hl hall h2
    · rw [ready_pop hp hl (by omega), h1] at hi
      cases hi
  | succ fuel ih =>
    intro listed a w hl hd h
    obtain ⟨h1, h2⟩ := h
    refine ⟨fun hr => ?_, fun i hi => ?_⟩
    · have hr' : Region.ready md ops' listed = [] := by
        rw [List.eq_nil_iff_forall_not_mem]
        intro j hj
        have hjl : j < ops'.size := by obtain ⟨_, o, ho, _⟩ := mem_ready.1 hj; exact (Array.getElem?_eq_some_iff.1 ho).1
        rw [← ready_pop hp hl hjl, hr] at hj
        cases hj
      have hall := none_ready hp hc hl hr' hs
      have hrd : ops'.size ∈ Region.ready md ops (listed.push false) := (ready_last ho hl).2 fun e he hb => hall _ ((lastCert_back hc ho).1 e he)
      rw [hr] at hrd
      cases hrd
    · have hil : i < ops.size := by obtain ⟨_, o, ho, _⟩ := mem_ready.1 hi; exact (Array.getElem?_eq_some_iff.1 ho).1
      by_cases e : i = ops'.size
      · subst e
        have hr := (ready_last ho hl).1 hi
        have hall : ∀ j, j < ops'.size → listed.getD j false = true := fun j hj => all_listed hc hs hl hd ho hr (ops'.size - j - 1) j (by omega)
        refine atEnd _ listed a w hl hall (h1 ?_)
        rw [List.eq_nil_iff_forall_not_mem]
        intro j hj
        obtain ⟨h3, o, ho, _⟩ := mem_ready.1 hj
        have hjl : j < ops'.size := (Array.getElem?_eq_some_iff.1 ho).1
        have h4 := hall j hjl
        have h5 : j < listed.size := by omega
        simp [h5] at h3 h4
        rw [h3] at h4
        cases h4
      · have hi' : i < ops'.size := by omega
        have hr := (ready_pop hp hl hi').1 hi
        refine wpOp_pop hp hc hi' (fun a w hK => ?_) (h2 i hr)
        have e2 : (listed.push false).setIfInBounds i true = (listed.setIfInBounds i true).push false := by
          have hil2 : i < listed.size := by omega
          have hne2 : i ≠ listed.size := by omega
          refine Array.ext_getElem? fun j => ?_
          by_cases e3 : j = i
          · subst e3
            rw [Array.getElem?_setIfInBounds_self_of_lt (by simp; omega), Array.getElem?_push, if_neg (by simpa using hne2), Array.getElem?_setIfInBounds_self_of_lt hil2]
          · simp [Array.getElem?_push, Array.getElem?_setIfInBounds_ne (Ne.symm e3)]
        rw [e2]
        refine ih _ a w (by simpa using hl) (fun j o hoj hj ed he hb => ?_) hK
        by_cases eji : j = i
        · subst eji
          obtain ⟨_, o', ho', hall⟩ := mem_ready.1 hr
          rw [pop_get hp hi', hoj] at ho'
          cases ho'
          exact getD_set_true (hall ed he hb)
        · rw [getD_set_ne false (Ne.symm eji)] at hj
          exact getD_set_true (hd j o hoj hj ed he hb)

theorem shut_start (n : Nat) : Shutdown md ops (Array.replicate n false) := fun j o ho hj e he hb => by
  exfalso
  by_cases hjl : j < n
  · simp [hjl] at hj
  · simp [hjl] at hj

variable {S : World → Prop} {l : List Oper}

/-- **The last one last**: the region without it, and behind it the last one. -/
theorem region_last {id : Nat} {a : Act} {w : World} (S : World → Prop) (hm : P.follows .mixedOrders = true) (hc : lastCert .any l.toArray = true) (hs : (l.length == l.dropLast.length + 1) = true) (hS : S w.drew)
    (h : S w.drew → wpAnyH P .any l.dropLast.toArray (lastQ P l.toArray Q l.dropLast.length) S l.dropLast.length (Array.replicate l.dropLast.length false) a w.drew) : (Code.region id l.toArray true).wp P Q a w := by
  have hs' : l.length = l.dropLast.length + 1 := by simpa using hs
  have hp : l.dropLast.toArray = l.toArray.pop := by simp
  refine wp_region_any hm ?_
  have := wpAny_last (P := P) (Q := Q) hp hc (by simpa using hs') l.dropLast.length (Array.replicate l.dropLast.length false) a w.drew (by simp) (shut_start _) (wpAny_of_held _ _ _ _ (h hS))
  rw [show (Array.replicate l.dropLast.length false).push false = Array.replicate l.length false by rw [hs', Array.replicate_succ]] at this
  rw [List.size_toArray]
  rw [← hs'] at this
  exact this

/-- The same, with no last one set apart. -/
theorem region_all {id : Nat} {a : Act} {w : World} (S : World → Prop) (hm : P.follows .mixedOrders = true) (hS : S w.drew)
    (h : S w.drew → wpAnyH P .any l.toArray Q S l.length (Array.replicate l.length false) a w.drew) : (Code.region id l.toArray true).wp P Q a w :=
  wp_region_held_drew (S := S) hm hS (by simpa using h)

theorem takeL {i : Nat} {oi : Oper} {v : Value} {fuel : Nat} {listed : Array Bool} {a : Act} {w : World} (hi : l[i]? = some oi)
    (hs : Region.noSelect l.toArray = true) (hf : Region.free md l.toArray listed i = true) (hr : (Region.ready md l.toArray listed).contains i = true)
    (hQ : ∀ c a w, Q (.panic c) (a.put oi.dst v) w → Q (.panic c) a w) (hg : oi.guard = none) (hS : S w) (hy : ∀ w, S w → (execOp a.eval oi).run P w = .ok (.value v) w)
    (h : wpAnyH P md l.toArray Q S fuel (listed.setIfInBounds i true) (a.put oi.dst v) w) : wpAnyH P md l.toArray Q S (fuel + 1) listed a w :=
  wpAnyH_take (by simpa using hi) hs hf hr hQ (.inl ⟨by simp [Region.wanted, hg], hy⟩) hS h

/-- The one operation that may come up. -/
theorem stepL {i : Nat} {o : Oper} {fuel : Nat} {listed : Array Bool} {a : Act} {w : World} (hi : l[i]? = some o) (hr : Region.ready md l.toArray listed = [i])
    (h : ∀ K' : Act → World → Prop, Shut (∀ a w, S w → (S w → wpAnyH P md l.toArray Q S fuel (listed.setIfInBounds i true) a w) → K' a w) → if Region.wanted o (yielded l.toArray a.tmps) = true then Oper.wp P o a w K' Q else K' (a.put o.dst undef) w) :
    wpAnyH P md l.toArray Q S (fuel + 1) listed a w :=
  wpAnyH_ready hr (by simp) (AllReadyH.cons (by simpa using hi) h AllReadyH.nil)

/-- Two that may come up: either first. -/
theorem step2L {i j : Nat} {o o' : Oper} {fuel : Nat} {listed : Array Bool} {a : Act} {w : World} (hi : l[i]? = some o) (hj : l[j]? = some o') (hr : Region.ready md l.toArray listed = [i, j])
    (h : ∀ K' : Act → World → Prop, Shut (∀ a w, S w → (S w → wpAnyH P md l.toArray Q S fuel (listed.setIfInBounds i true) a w) → K' a w) → if Region.wanted o (yielded l.toArray a.tmps) = true then Oper.wp P o a w K' Q else K' (a.put o.dst undef) w)
    (h' : ∀ K' : Act → World → Prop, Shut (∀ a w, S w → (S w → wpAnyH P md l.toArray Q S fuel (listed.setIfInBounds j true) a w) → K' a w) → if Region.wanted o' (yielded l.toArray a.tmps) = true then Oper.wp P o' a w K' Q else K' (a.put o'.dst undef) w) :
    wpAnyH P md l.toArray Q S (fuel + 1) listed a w :=
  wpAnyH_ready hr (by simp) (AllReadyH.cons (by simpa using hi) h (AllReadyH.cons (by simpa using hj) h' AllReadyH.nil))

/-- Behind all others: the last one. -/
theorem lastL {n : Nat} {o : Oper} {a : Act} {w : World} (hi : l[n]? = some o) (hg : o.guard = none) (h : o.wp P a w (fun a w => Q .normal a w) Q) : lastQ P l.toArray Q n .normal a w := by
  show wpOp P l.toArray Q n _ a w
  unfold wpOp
  have hi' : l.toArray[n]? = some o := by simpa using hi
  simp only [hi']
  rw [if_pos (by simp [Region.wanted, hg])]
  exact .inl h

end
end Go.Proofs.YtmecbppblbmchaaGreatDoor
