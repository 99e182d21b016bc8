import Derived.Test.YtmecbppblbmchaaGreatDoorCopy0
import Derived.Laws.CopyRow
import Derived.Test.YtmecbppblbmchaaGreatDoorHeld
import Derived.Test.YtmecbppblbmchaaGreatDoorRead
import Derived.Shelf.SlIter.Collect
/- copy at elements of several cells; a slice's cells. -/
namespace Go.Proofs.YtmecbppblbmchaaGreatDoor
open Go.ChangeShapes Go.WideShapes Go.ChangeAt Go.RowKit
set_option linter.unusedVariables false
set_option maxRecDepth 100000

theorem run_copy_rowK {P : Program} (w : World) (dT sT ty elem : TypeId) (g o dLen dCap : Nat) (a : Addr) (sLen sCap : Nat) (cur : Array Value) (t : TypeId) (cs : List Value) (n k : Nat)
    (hu : P.underlying dT = some (.slice elem)) (hs : (P.info? elem).map (·.size) = some k)
    (hg : w.heap[g]? = some (.cells cur t (0, 0))) (hm : Nat.min sLen dLen = n) (hn : cs.length = n * k)
    (hsrc : ∀ j v, cs[j]? = some v → w.cell? (a.add j) = some v) (hfit : o + cs.length ≤ cur.size) (h1 : ∀ v ∈ cs, v.oneCell' = true) :
    (Builtin.copy_ #[dT, sT] ty #[.slice (some ⟨g, o, none⟩) dLen dCap, .slice (some a) sLen sCap]).run P w =
      .ok (goInt n) (w.setRow g (cur.toList.take o ++ cs ++ cur.toList.drop (o + cs.length)).toArray) := by
  have hl := run_loadCells_list (P := P) w a cs hsrc
  have hst := run_storeCells_at P g o t cs 0 cur w hg (by simpa using hfit) h1
  cases hq : P.info? elem with
  | none => simp [hq] at hs
  | some i =>
    have hi : i.size = k := by simpa [hq] using hs
    simp [Builtin.copy_, run_underlying hu, Builtin.lenOf, Builtin.firstCells, sizeOf, typeInfo, hq, hi, hm, ← hn, hl, hst]

theorem run_copy_noneK {P : Program} (w : World) (dT sT ty elem : TypeId) (d s : Option Addr) (dLen dCap sLen sCap k : Nat)
    (hu : P.underlying dT = some (.slice elem)) (hs : (P.info? elem).map (·.size) = some k) (hz : Nat.min sLen dLen = 0) :
    (Builtin.copy_ #[dT, sT] ty #[.slice d dLen dCap, .slice s sLen sCap]).run P w = .ok (goInt 0) w := by
  have h0 : ∀ a, (loadCells a 0).run P w = .ok #[] w := fun a => run_loadCells_list (P := P) w a [] (by simp)
  cases hq : P.info? elem with
  | none => simp [hq] at hs
  | some i => cases d <;> cases s <;> simp [Builtin.copy_, run_underlying hu, Builtin.lenOf, Builtin.firstCells, sizeOf, typeInfo, hq, storeCells, h0, hz]

theorem add_at (b off x : Nat) : (⟨b, off, none⟩ : Addr).add x = ⟨b, off + x, none⟩ := by
  by_cases h : x = 0 <;> simp [Addr.add, h]

/-- The slice's cells lie in memory. -/
def CellsAt (w : World) (a : Option Addr) (n : Nat) (cs : List Value) : Prop := 0 < n → ∃ b off, a = some ⟨b, off, none⟩ ∧ ∀ j v, cs[j]? = some v → w.cell? ⟨b, off + j, none⟩ = some v
theorem CellsAt.stays {w w' : World} {a : Option Addr} {n : Nat} {cs : List Value} (h : CellsAt w a n cs) (hb : Below w.heap.size w w') : CellsAt w' a n cs := fun hp => by
  obtain ⟨b, off, h1, h2⟩ := h hp
  exact ⟨b, off, h1, fun j v hj => cell_stays hb (h2 j v hj)⟩

/-- The cells of versions. -/
def vcells (l : List Vr) : List Value := l.flatMap fun x => [.int .i64 x.1, .int .i64 x.2]
theorem vcells_get : ∀ (l : List Vr) (i : Nat), i < l.length → (vcells l)[i * 2]? = some (.int .i64 (vAt l i).1) ∧ (vcells l)[i * 2 + 1]? = some (.int .i64 (vAt l i).2)
  | [], i, h => absurd h (Nat.not_lt_zero _)
  | x :: l, 0, h => by simp [vcells, vAt]
  | x :: l, i + 1, h => by
    obtain ⟨h1, h2⟩ := vcells_get l i (by simpa using h)
    have e : vcells (x :: l) = .int .i64 x.1 :: .int .i64 x.2 :: vcells l := by simp [vcells]
    rw [e]
    refine ⟨?_, ?_⟩
    · rw [show (i + 1) * 2 = i * 2 + 1 + 1 by omega]; simpa [vAt] using h1
    · rw [show (i + 1) * 2 + 1 = i * 2 + 1 + 1 + 1 by omega]; simpa [vAt] using h2
theorem vcells_length (l : List Vr) : (vcells l).length = l.length * 2 := by
  induction l with
  | nil => rfl
  | cons x l ih => simp only [vcells, List.flatMap_cons, List.length_append, List.length_cons] at *; rw [ih]; simp; omega
theorem vcells_one (l : List Vr) : ∀ v ∈ vcells l, v.oneCell' = true := by
  intro v hv
  simp [vcells] at hv
  obtain ⟨a, b, _, h⟩ := hv
  rcases h with rfl | rfl <;> rfl

theorem VersAt.cells {lo hi : Nat} {w : World} {a : Option Addr} {cap : Nat} {l : List Vr} (h : VersAt lo hi w (.slice a l.length cap) l) : CellsAt w a l.length (vcells l) := fun hp => by
  obtain ⟨a', cap', e, hm, hc⟩ := h
  injection e with e1 e2 e3
  subst e1
  obtain ⟨b, off, rfl, _, _, hcc⟩ := hc hp
  refine ⟨b, off, rfl, fun j v hj => ?_⟩
  have hjl : j < l.length * 2 := by rw [← vcells_length]; exact (List.getElem?_eq_some_iff.1 hj).1
  obtain ⟨g1, g2⟩ := vcells_get l (j / 2) (by omega)
  obtain ⟨k1, k2⟩ := hcc (j / 2) (by omega)
  rcases Nat.mod_two_eq_zero_or_one j with hj2 | hj2
  · rw [show j = j / 2 * 2 by omega] at hj ⊢
    rw [g1] at hj
    cases hj
    exact k1
  · rw [show j = j / 2 * 2 + 1 by omega] at hj ⊢
    rw [g2] at hj
    cases hj
    exact k2

end Go.Proofs.YtmecbppblbmchaaGreatDoor

/- impl.copyVers and impl.storeOf: new lists, new chains, sorted by their keys. -/
namespace Go.Proofs.YtmecbppblbmchaaGreatDoor
open Go.ChangeShapes Go.WideShapes Go.ChangeAt Go.RowKit Go.Maps Go.Sort
set_option linter.unusedVariables false
set_option maxRecDepth 100000
attribute [local go_sem ↓] Go.wp_at_zero Go.wp_at_succ

theorem copyVers_own (v : Value) (l : List Vr) (w : World) {lo hi : Nat} (h : VersAt lo hi w v l) (hn : l.length ≤ 1048576) :
    Calls Tryz.prog 104 #[v] w fun e w' => e = .returned (.slice (some ⟨w.heap.size, 0, none⟩) l.length l.length) ∧ OwnV w' w.heap.size l ∧ Below w.heap.size w w' := by
  obtain ⟨a, cap, rfl, hm, hc⟩ := h
  have hmk := make_vers l.length hn w
  have hsz : (Tryz.prog.info? 123).map (·.size) = some 2 := by kernel_rfl
  have hbA : Below w.heap.size w (w.alloc (.cells (madeCells #[.int .i64 0, .int .i64 0] (l.length * 2)) 123)) := (Below.refl _ _).alloc (Nat.le_refl _) _
  by_cases h0 : l.length = 0
  · have hcp := fun ty => run_copy_noneK (P := Tryz.prog) (w.alloc (.cells (madeCells #[.int .i64 0, .int .i64 0] (l.length * 2)) 123)) 92 92 ty 123 (some ⟨w.heap.size, 0, none⟩) a l.length l.length l.length cap 2 Tryz.underlying92 hsz (by rw [h0]; rfl)
    obtain ⟨W1, hW1⟩ : ∃ W1, w.alloc (.cells (madeCells #[.int .i64 0, .int .i64 0] (l.length * 2)) 123) = W1 := ⟨_, rfl⟩
    have hrow : W1.heap[w.heap.size]? = some (.cells (madeCells #[.int .i64 0, .int .i64 0] (l.length * 2)) 123 (0, 0)) := by rw [← hW1]; exact Deep.blk_alloc_new _ _
    rw [hW1] at hmk hcp hbA
    have H0 : Hid (l.length = 0) := h0
    clear hc hsz hW1 h0
    go_enter Tryz.func104, Tryz.ntmps104
    go_wp2
    go_ret
    exact ⟨rfl, ⟨fun _ => .int .i64 0, ⟨_, hrow, by rw [H0.out]; omega, fun j hj => absurd hj (by rw [H0.out]; omega)⟩, fun i hi => absurd hi (by rw [H0.out]; omega)⟩, hbA⟩
  · obtain ⟨b, off, rfl, hlo, hhi, hcc⟩ := hc (by omega)
    have hsrc : ∀ j v, (vcells l)[j]? = some v → (w.alloc (.cells (madeCells #[.int .i64 0, .int .i64 0] (l.length * 2)) 123)).cell? ((⟨b, off, none⟩ : Addr).add j) = some v := by
      intro j v hj
      have hjl : j < l.length * 2 := by rw [← vcells_length]; exact (List.getElem?_eq_some_iff.1 hj).1
      obtain ⟨g1, g2⟩ := vcells_get l (j / 2) (by omega)
      obtain ⟨k1, k2⟩ := hcc (j / 2) (by omega)
      refine cell_stays hbA ?_
      rcases Nat.mod_two_eq_zero_or_one j with hj2 | hj2
      · rw [show j = j / 2 * 2 by omega] at hj ⊢
        rw [g1] at hj
        cases hj
        rw [add_at]; exact k1
      · rw [show j = j / 2 * 2 + 1 by omega] at hj ⊢
        rw [g2] at hj
        cases hj
        rw [add_at]; exact k2
    have hcp := fun ty => run_copy_rowK (P := Tryz.prog) (w.alloc (.cells (madeCells #[.int .i64 0, .int .i64 0] (l.length * 2)) 123)) 92 92 ty 123 w.heap.size 0 l.length l.length ⟨b, off, none⟩ l.length cap _ _ (vcells l) l.length 2 Tryz.underlying92 hsz (Deep.blk_alloc_new _ _) (Nat.min_self _) (vcells_length l) hsrc (by rw [vcells_length, size_madeCells]; omega) (vcells_one l)
    obtain ⟨W2, hW2⟩ : ∃ W2, (w.alloc (.cells (madeCells #[.int .i64 0, .int .i64 0] (l.length * 2)) 123)).setRow w.heap.size (((madeCells #[.int .i64 0, .int .i64 0] (l.length * 2)).toList.take 0 ++ vcells l ++ (madeCells #[.int .i64 0, .int .i64 0] (l.length * 2)).toList.drop (0 + (vcells l).length)).toArray) = W2 := ⟨_, rfl⟩
    rw [hW2] at hcp
    have hrow : W2.heap[w.heap.size]? = some (.cells (vcells l).toArray 123 (0, 0)) := by
      have := setRow_heap (w.alloc (.cells (madeCells #[.int .i64 0, .int .i64 0] (l.length * 2)) 123)) w.heap.size _ (((madeCells #[.int .i64 0, .int .i64 0] (l.length * 2)).toList.take 0 ++ vcells l ++ (madeCells #[.int .i64 0, .int .i64 0] (l.length * 2)).toList.drop (0 + (vcells l).length)).toArray) _ _ (Deep.blk_alloc_new _ _)
      rw [hW2] at this
      rw [this]
      congr 2
      rw [List.drop_eq_nil_of_le (by rw [vcells_length, Array.length_toList, size_madeCells]; omega)]
      simp
    have hb2 : Below w.heap.size w W2 := by
      rw [← hW2]
      exact hbA.trans ⟨rfl, rfl, rfl, by simp [World.setRow], fun k hk => setRow_other _ _ k _ (by omega)⟩
    clear hc hsz hcc hsrc hW2
    go_enter Tryz.func104, Tryz.ntmps104
    go_wp2
    go_ret
    refine ⟨rfl, ⟨fun j => (vcells l).getD j (.int .i64 0), ⟨_, hrow, by simp [vcells_length], fun j hj => ?_⟩, fun i hi => ?_⟩, hb2⟩
    · have hj' : j < (vcells l).length := by rw [vcells_length]; exact hj
      simp [List.getD, List.getElem?_eq_getElem hj']
    · obtain ⟨g1, g2⟩ := vcells_get l i hi
      simp [List.getD, g1, g2]

end Go.Proofs.YtmecbppblbmchaaGreatDoor

/- The keys of a map, as maps.Keys hands them on: each once, in some order; collected into a slice. -/
namespace Go.Proofs.YtmecbppblbmchaaGreatDoor
open Go.ChangeShapes Go.WideShapes Go.ChangeAt Go.RowKit Go.Maps Go.Sort Go.Shelf
set_option linter.unusedVariables false
set_option maxRecDepth 100000

def encK (x : Int × Int) : Value := .agg #[.int .i64 x.1, .int .i64 x.2]

theorem key_inv {key : Value} {kl : Lit} (h : keyOf Tryz.prog 46 key = some kl) : ∃ x : Int × Int, key = encK x ∧ wf x.1 ∧ wf x.2 := by
  have hk : Tryz.prog.keyType 46 = true := by kernel_rfl
  have hc : Tryz.prog.cellsOf 46 = 2 := by kernel_rfl
  have hi : Tryz.prog.cellsOf 3 = 1 := by kernel_rfl
  obtain ⟨m, hm⟩ : ∃ m, Tryz.prog.types.size = m + 1 := ⟨Tryz.prog.types.size - 1, by have : 0 < Tryz.prog.types.size := of_decide_eq_true (by kernel_rfl); omega⟩
  unfold keyOf at h
  rw [Tryz.underlying46] at h
  simp only [hk, Bool.true_and, hm] at h
  split at h
  · rename_i hf
    cases key <;> simp [Value.formed, Tryz.underlying46, hc] at hf
    rename_i cs
    match cs, hf with
    | ⟨[v0, v1]⟩, _ =>
      simp [Value.cells, Program.keyLits, Tryz.underlying46, Tryz.underlying3, hc, hi] at h
      cases v0 <;> simp at h
      rename_i q0 n0 _
      split at h
      · rename_i h0
        obtain ⟨rfl, w0⟩ := h0
        cases v1 <;> simp at h
        rename_i q1 n1 _
        split at h
        · rename_i h1
          obtain ⟨rfl, w1⟩ := h1
          exact ⟨(n0, n1), rfl, w0, w1⟩
        · simp at h
      · simp at h
  · simp at h

theorem encK_inj {x y : Int × Int} (h : encK x = encK y) : x = y := by
  simp [encK] at h
  exact Prod.ext h.1 h.2

/-- The list has just the keys of the map, each once. -/
def KeysAre (f : Int → Int → Option Value) (ss : List (Int × Int)) : Prop := ss.Nodup ∧ (∀ x ∈ ss, wf x.1 ∧ wf x.2) ∧ ∀ t r, wf t → wf r → ((t, r) ∈ ss ↔ (f t r).isSome = true)

/-- .. those that are no longer to come. -/
def CollK (f : Int → Int → Option Value) (left : Lit → Bool) (ss : List (Int × Int)) : Prop := ss.Nodup ∧ (∀ x ∈ ss, wf x.1 ∧ wf x.2) ∧ ∀ t r, wf t → wf r → ((t, r) ∈ ss ↔ (f t r).isSome = true ∧ left (klit t r) = false)

theorem CollK.start {D : DataW Value} {f : Int → Int → Option Value} (h : At D f) : CollK f (Maps.has D) [] := by
  refine ⟨List.nodup_nil, by simp, fun t r ht hr => ?_⟩
  simp only [List.not_mem_nil, false_iff, not_and]
  intro hs hl
  obtain ⟨v, hv⟩ := Option.isSome_iff_exists.1 hs
  have := has_true_of_atKey (y := .held v) (fun z => by rw [h.2 t r ht hr z, hv])
  rw [this] at hl
  cases hl

theorem CollK.step {D : DataW Value} {f : Int → Int → Option Value} {left : Lit → Bool} {ss : List (Int × Int)} (hA : At D f) (h : CollK f left ss) {x : Int × Int} (w0 : wf x.1) (w1 : wf x.2) (hlk : left (klit x.1 x.2) = true) {y : DataW Value} (hat : ∀ zd, D.atKey (klit x.1 x.2) zd = y) :
    CollK f (fun z => left z && !z.sameKey (klit x.1 x.2)) (ss ++ [x]) := by
  obtain ⟨h1, h2, h3⟩ := h
  have hx : x ∉ ss := fun hx => by have := ((h3 x.1 x.2 w0 w1).1 hx).2; rw [this] at hlk; cases hlk
  have hsome : (f x.1 x.2).isSome = true := by
    cases hf : f x.1 x.2 with
    | some v => rfl
    | none =>
      have e1 := hat (.held (.bool true))
      have e2 := hat (.held (.bool false))
      rw [hA.2 _ _ w0 w1, hf] at e1 e2
      rw [← e2] at e1
      simp at e1
  refine ⟨by rw [List.nodup_append]; exact ⟨h1, by simp, fun a ha b hb => by simp at hb; subst hb; exact fun e => hx (e ▸ ha)⟩, fun z hz => ?_, fun t r ht hr => ?_⟩
  · simp at hz
    rcases hz with hz | rfl
    · exact h2 z hz
    · exact ⟨w0, w1⟩
  · by_cases e : (t, r) = x
    · subst e
      have hs : (klit t r).sameKey (klit t r) = true := by simp [klit, Lit.sameKey]
      simp [hs, hsome]
    · have hne : (klit t r).sameKey (klit x.1 x.2) = false := sameKey_ne fun e' => e (by obtain ⟨a, b⟩ := klit_inj ht hr w0 w1 e'; exact Prod.ext a b)
      simp only [List.mem_append, List.mem_singleton, e, or_false, hne]
      simpa using h3 t r ht hr

theorem CollK.step2 {D : DataW Value} {f : Int → Int → Option Value} {left : Lit → Bool} {ss : List (Int × Int)} (hA : At D f) (h : CollK f left ss) {t r : Int} (w0 : wf t) (w1 : wf r) (hlk : left (klit t r) = true) {y : DataW Value} (hat : ∀ zd, D.atKey (klit t r) zd = y) :
    CollK f (fun z => left z && !z.sameKey (klit t r)) (ss ++ [(t, r)]) := CollK.step (x := (t, r)) hA h w0 w1 hlk hat

theorem CollK.done {f : Int → Int → Option Value} {left : Lit → Bool} {ss : List (Int × Int)} (h : CollK f left ss) (hl : ∀ kl, left kl = false) : KeysAre f ss :=
  ⟨h.1, h.2.1, fun t r ht hr => by rw [h.2.2 t r ht hr, hl]; simp⟩

set_option maxHeartbeats 1000000 in
theorem keysIt_in (n : Nat) (hn : 1 ≤ n) (l Bm b nn : Nat) (D0 : DataW Value) (f : Int → Int → Option Value) (hat0 : At D0 f) (J : List (Int × Int) → World → Prop)
    (hY : ∀ pre x W, J pre W → pre.length < Maps.size D0 → YieldAt Fence.wide (n - 1) Tryz.prog l #[encK x] W fun e W' => e = .returned (.bool true) ∧ J (pre ++ [x]) W' ∧ KeepsWalks W W')
    (W : World) (hJ : AbidesFrom W.heap.size J) (hm : W.cell? ⟨Bm, 0, none⟩ = some (.map (some b))) (hown : W.ownsMap Tryz.prog 46 KV b nn D0) (h0 : J [] W) :
    CallsIn Fence.wide n Tryz.prog 155 #[.func (.yield l) #[] #[], .pointer (some ⟨Bm, 0, none⟩)] W fun e W' => (∃ v, e = .returned v) ∧ ∃ ss : List (Int × Int), KeysAre f ss ∧ J ss W' := by
  refine callsIn_of_wp Tryz.func155 rfl trivial ?_ rfl
  simp only [Tryz.ntmps155, List.size_toArray, List.length_cons, List.length_nil, Nat.reduceAdd, Nat.reduceSub, Array.replicate_succ, Array.replicate_zero, List.push_toArray, List.append_toArray, List.nil_append, List.cons_append]
  gi_wp2_with (first
    | (gi_at_range; refine wpListIn_range_own _ rfl _ 169 rfl 46 92 mlaw Tryz.underlying169 _ b nn _ rfl hown ?_; intro w0 hrg0 hg0 hs0)
    | gi_in)
  go_frame
  gi_loopw [3] (fun _ wr => ∃ (left : Lit → Bool) (cnt : Nat) (ss : List (Int × Int)), wr.ranges Tryz.prog 46 KV b W.heap.size nn D0 left cnt ∧ ss.length + cnt ≤ Maps.size D0 ∧ CollK f left ss ∧ J ss wr)
    (fun _ wr => wr.rangeLeft b W.heap.size)
  case atStart =>
    exact ⟨_, _, [], hrg0, by simp, CollK.start hat0, hJ [] W w0 none h0 hg0 (fun r e => by cases e)⟩
  case round =>
    obtain ⟨left, cnt, ss, hrg, hcs, hC, hJs⟩ := hrel
    gi_wp2_with (first
      | (gi_at_next; refine wpListIn_next_ranges _ rfl _ rfl 46 mlaw KV encK id (fun key kl hk => by obtain ⟨x, hx, _⟩ := key_inv hk; exact ⟨x, hx⟩) (fun v _ _ => ⟨v, rfl⟩) b W.heap.size nn _ _ _ rfl hrg ?_ ?_)
      | gi_in)
    · intro hc0 hl0
      gi_wp2
      go_end0
      exact ⟨⟨_, rfl⟩, ss, hC.done hl0, hJs⟩
    · intro x1 x2 c kl yd yp w2 cnt2 hkey hlk hv hat hrg2 hlt hg2 hs2 hen
      obtain ⟨x, ex, wx0, wx1⟩ := key_inv hkey
      obtain rfl : (x1, x2) = x := encK_inj ex
      have ekl : kl = klit x1 x2 := by rw [encK, key_is wx0 wx1] at hkey; exact (Option.some.inj hkey).symm
      subst ekl
      have hJ2 : J ss w2 := hJ ss wr w2 (some W.heap.size) hJs hg2 (fun r e => by cases e; exact ⟨Nat.le_refl _, hrg.iter_walk⟩)
      have hJ3 : J ss (w2.alloc (Obj.cells #[.int .i64 x1, .int .i64 x2] 46)) := hJ ss w2 _ none hJ2 (World.grownBy_alloc _ _ _) (fun r e => by cases e)
      obtain ⟨fn, tmps, assign, body, hy, hR⟩ := hY ss (x1, x2) _ hJ3 (by omega)
      clear hs2 hkey
      unfold encK at hen hy
      gi_wp2
      refine hR.mono ?_
      rintro e W3 ⟨rfl, hJ4, hk3⟩
      gi_wp2
      have hrg3 := (hrg2.alloc _).of_walks hk3
      have hC3 := CollK.step2 hat0 hC wx0 wx1 hlk hat
      have hcs3 : (ss ++ [(x1, x2)]).length + cnt2 ≤ Maps.size D0 := by simp; omega
      go_roundw
      case rel => exact ⟨_, cnt2, ss ++ [(x1, x2)], hrg3, hcs3, hC3, hJ4⟩
      case measure => rw [hrg3.left_eq, hrg.left_eq]; exact hlt

theorem keys_in (n : Nat) (mb : Option Nat) (w : World) :
    CallsIn Fence.wide n Tryz.prog 147 #[.map mb] w fun e w' => e = .returned (.func (.func 155) #[] #[.pointer (some ⟨w.heap.size, 0, none⟩)]) ∧ w' = w.alloc (.cells #[.map mb] 169) := by
  refine callsIn_of_wp Tryz.func147 rfl trivial ?_ rfl
  simp only [Tryz.ntmps147, List.size_toArray, List.length_cons, List.length_nil, Nat.reduceAdd, Nat.reduceSub, Array.replicate_succ, Array.replicate_zero, List.push_toArray, List.append_toArray, List.nil_append, List.cons_append]
  gi_wp2
  go_ret
  exact ⟨rfl, rfl⟩

/-- maps.Keys hands back an iterator over the map's keys. -/
theorem keys_gives (n : Nat) (hn : 1 ≤ n) (Bm b nn : Nat) (D0 : DataW Value) (f : Int → Int → Option Value) (hat : At D0 f) (w : World) (hBm : Bm < w.heap.size) (hm : w.cell? ⟨Bm, 0, none⟩ = some (.map (some b))) (hown : w.ownsMap Tryz.prog 46 KV b nn D0) :
    SeqGives Fence.wide n Tryz.prog 155 #[.pointer (some ⟨Bm, 0, none⟩)] encK (KeysAre f) (Maps.size D0) w := fun l J W hW hJ hY h0 => by
  have hown' : W.ownsMap Tryz.prog 46 KV b nn D0 := by
    have hbl := hown.lt
    obtain ⟨es, clock, hb, Ft, hs, hD⟩ := hown
    exact ⟨es, clock, (hW.block b hbl).trans hb, Ft, hs, hD⟩
  exact keysIt_in n hn l Bm b nn D0 f hat J hY W hJ ((hW.cell (p := ⟨Bm, 0, none⟩) hBm).trans hm) hown' h0

end Go.Proofs.YtmecbppblbmchaaGreatDoor
