/- The keys of a map, as maps.Keys hands them on: each once, in some order; collected into a slice. -/
import Derived.Test.YtifdfelpbonckaaRead
import Derived.Shelf.SlIter.Collect
namespace Go.Proofs.Ytifdfelpbonckaa
open Go.ChangeShapes Go.WideShapes Go.ChangeAt Go.RowKit Go.Maps Go.Sort Go.Shelf
set_option linter.unusedVariables false
set_option maxRecDepth 100000

def encK (x : Int × Int) : Value := .agg #[.int .i64 x.1, .int .i64 x.2]

theorem key_inv {key : Value} {kl : Lit} (h : keyOf Try.prog 36 key = some kl) : ∃ x : Int × Int, key = encK x ∧ wf x.1 ∧ wf x.2 := by
  have hk : Try.prog.keyType 36 = true := by kernel_rfl
  have hc : Try.prog.cellsOf 36 = 2 := by kernel_rfl
  have hi : Try.prog.cellsOf 3 = 1 := by kernel_rfl
  obtain ⟨m, hm⟩ : ∃ m, Try.prog.types.size = m + 1 := ⟨Try.prog.types.size - 1, by have : 0 < Try.prog.types.size := of_decide_eq_true (by kernel_rfl); omega⟩
  unfold keyOf at h
  rw [Try.underlying36] at h
  simp only [hk, Bool.true_and, hm] at h
  split at h
  · rename_i hf
    cases key <;> simp [Value.formed, Try.underlying36, hc] at hf
    rename_i cs
    match cs, hf with
    | ⟨[v0, v1]⟩, _ =>
      simp [Value.cells, Program.keyLits, Try.underlying36, Try.underlying3, hc, hi] at h
      cases v0 <;> simp at h
      rename_i q0 n0 _
      split at h
      · rename_i h0
        obtain ⟨rfl, w0⟩ := h0
        cases v1 <;> simp at h
        rename_i q1 n1 _
        split at h
        · rename_i h1
          obtain ⟨rfl, w1⟩ := h1
          exact ⟨(n0, n1), rfl, w0, w1⟩
        · simp at h
      · simp at h
  · simp at h

theorem encK_inj {x y : Int × Int} (h : encK x = encK y) : x = y := by
  simp [encK] at h
  exact Prod.ext h.1 h.2

/-- The list has just the keys of the map, each once. -/
def KeysAre (f : Int → Int → Option Value) (ss : List (Int × Int)) : Prop := ss.Nodup ∧ (∀ x ∈ ss, wf x.1 ∧ wf x.2) ∧ ∀ t r, wf t → wf r → ((t, r) ∈ ss ↔ (f t r).isSome = true)

/-- .. those that are no longer to come. -/
def CollK (f : Int → Int → Option Value) (left : Lit → Bool) (ss : List (Int × Int)) : Prop := ss.Nodup ∧ (∀ x ∈ ss, wf x.1 ∧ wf x.2) ∧ ∀ t r, wf t → wf r → ((t, r) ∈ ss ↔ (f t r).isSome = true ∧ left (klit t r) = false)

theorem CollK.start {D : DataW Value} {f : Int → Int → Option Value} (h : At D f) : CollK f (Maps.has D) [] := by
  refine ⟨List.nodup_nil, by simp, fun t r ht hr => ?_⟩
  simp only [List.not_mem_nil, false_iff, not_and]
  intro hs hl
  obtain ⟨v, hv⟩ := Option.isSome_iff_exists.1 hs
  have := has_true_of_atKey (y := .held v) (fun z => by rw [h.2 t r ht hr z, hv])
  rw [this] at hl
  cases hl

theorem CollK.step {D : DataW Value} {f : Int → Int → Option Value} {left : Lit → Bool} {ss : List (Int × Int)} (hA : At D f) (h : CollK f left ss) {x : Int × Int} (w0 : wf x.1) (w1 : wf x.2) (hlk : left (klit x.1 x.2) = true) {y : DataW Value} (hat : ∀ zd, D.atKey (klit x.1 x.2) zd = y) :
    CollK f (fun z => left z && !z.sameKey (klit x.1 x.2)) (ss ++ [x]) := by
  obtain ⟨h1, h2, h3⟩ := h
  have hx : x ∉ ss := fun hx => by have := ((h3 x.1 x.2 w0 w1).1 hx).2; rw [this] at hlk; cases hlk
  have hsome : (f x.1 x.2).isSome = true := by
    cases hf : f x.1 x.2 with
    | some v => rfl
    | none =>
      have e1 := hat (.held (.bool true))
      have e2 := hat (.held (.bool false))
      rw [hA.2 _ _ w0 w1, hf] at e1 e2
      rw [← e2] at e1
      simp at e1
  refine ⟨by rw [List.nodup_append]; exact ⟨h1, by simp, fun a ha b hb => by simp at hb; subst hb; exact fun e => hx (e ▸ ha)⟩, fun z hz => ?_, fun t r ht hr => ?_⟩
  · simp at hz
    rcases hz with hz | rfl
    · exact h2 z hz
    · exact ⟨w0, w1⟩
  · by_cases e : (t, r) = x
    · subst e
      have hs : (klit t r).sameKey (klit t r) = true := by simp [klit, Lit.sameKey]
      simp [hs, hsome]
    · have hne : (klit t r).sameKey (klit x.1 x.2) = false := sameKey_ne fun e' => e (by obtain ⟨a, b⟩ := klit_inj ht hr w0 w1 e'; exact Prod.ext a b)
      simp only [List.mem_append, List.mem_singleton, e, or_false, hne]
      simpa using h3 t r ht hr

theorem CollK.step2 {D : DataW Value} {f : Int → Int → Option Value} {left : Lit → Bool} {ss : List (Int × Int)} (hA : At D f) (h : CollK f left ss) {t r : Int} (w0 : wf t) (w1 : wf r) (hlk : left (klit t r) = true) {y : DataW Value} (hat : ∀ zd, D.atKey (klit t r) zd = y) :
    CollK f (fun z => left z && !z.sameKey (klit t r)) (ss ++ [(t, r)]) := CollK.step (x := (t, r)) hA h w0 w1 hlk hat

theorem CollK.done {f : Int → Int → Option Value} {left : Lit → Bool} {ss : List (Int × Int)} (h : CollK f left ss) (hl : ∀ kl, left kl = false) : KeysAre f ss :=
  ⟨h.1, h.2.1, fun t r ht hr => by rw [h.2.2 t r ht hr, hl]; simp⟩

set_option maxHeartbeats 1000000 in
theorem keysIt_in (n : Nat) (hn : 1 ≤ n) (l Bm b nn : Nat) (D0 : DataW Value) (f : Int → Int → Option Value) (hat0 : At D0 f) (J : List (Int × Int) → World → Prop)
    (hY : ∀ pre x W, J pre W → pre.length < Maps.size D0 → YieldAt Fence.wide (n - 1) Try.prog l #[encK x] W fun e W' => e = .returned (.bool true) ∧ J (pre ++ [x]) W' ∧ KeepsWalks W W')
    (W : World) (hJ : AbidesFrom W.heap.size J) (hm : W.cell? ⟨Bm, 0, none⟩ = some (.map (some b))) (hown : W.ownsMap Try.prog 36 KV b nn D0) (h0 : J [] W) :
    CallsIn Fence.wide n Try.prog 62 #[.func (.yield l) #[] #[], .pointer (some ⟨Bm, 0, none⟩)] W fun e W' => (∃ v, e = .returned v) ∧ ∃ ss : List (Int × Int), KeysAre f ss ∧ J ss W' := by
  refine callsIn_of_wp Try.func62 rfl trivial ?_ rfl
  simp only [Try.ntmps62, List.size_toArray, List.length_cons, List.length_nil, Nat.reduceAdd, Nat.reduceSub, Array.replicate_succ, Array.replicate_zero, List.push_toArray, List.append_toArray, List.nil_append, List.cons_append]
  gi_wp2_with (first
    | (gi_at_range; refine wpListIn_range_own _ rfl _ 62 rfl 36 47 mlaw Try.underlying62 _ b nn _ rfl hown ?_; intro w0 hrg0 hg0 hs0)
    | gi_in)
  go_frame
  gi_loopw [3] (fun _ wr => ∃ (left : Lit → Bool) (cnt : Nat) (ss : List (Int × Int)), wr.ranges Try.prog 36 KV b W.heap.size nn D0 left cnt ∧ ss.length + cnt ≤ Maps.size D0 ∧ CollK f left ss ∧ J ss wr)
    (fun _ wr => wr.rangeLeft b W.heap.size)
  case atStart =>
    exact ⟨_, _, [], hrg0, by simp, CollK.start hat0, hJ [] W w0 none h0 hg0 (fun r e => by cases e)⟩
  case round =>
    obtain ⟨left, cnt, ss, hrg, hcs, hC, hJs⟩ := hrel
    gi_wp2_with (first
      | (gi_at_next; refine wpListIn_next_ranges _ rfl _ rfl 36 mlaw KV encK id (fun key kl hk => by obtain ⟨x, hx, _⟩ := key_inv hk; exact ⟨x, hx⟩) (fun v _ _ => ⟨v, rfl⟩) b W.heap.size nn _ _ _ rfl hrg ?_ ?_)
      | gi_in)
    · intro hc0 hl0
      gi_wp2
      go_end0
      exact ⟨⟨_, rfl⟩, ss, hC.done hl0, hJs⟩
    · intro x1 x2 c kl yd yp w2 cnt2 hkey hlk hv hat hrg2 hlt hg2 hs2 hen
      obtain ⟨x, ex, wx0, wx1⟩ := key_inv hkey
      obtain rfl : (x1, x2) = x := encK_inj ex
      have ekl : kl = klit x1 x2 := by rw [encK, key_is wx0 wx1] at hkey; exact (Option.some.inj hkey).symm
      subst ekl
      have hJ2 : J ss w2 := hJ ss wr w2 (some W.heap.size) hJs hg2 (fun r e => by cases e; exact ⟨Nat.le_refl _, hrg.iter_walk⟩)
      have hJ3 : J ss (w2.alloc (Obj.cells #[.int .i64 x1, .int .i64 x2] 36)) := hJ ss w2 _ none hJ2 (World.grownBy_alloc _ _ _) (fun r e => by cases e)
      obtain ⟨fn, tmps, assign, body, hy, hR⟩ := hY ss (x1, x2) _ hJ3 (by omega)
      clear hs2 hkey
      unfold encK at hen hy
      gi_wp2
      refine hR.mono ?_
      rintro e W3 ⟨rfl, hJ4, hk3⟩
      gi_wp2
      have hrg3 := (hrg2.alloc _).of_walks hk3
      have hC3 := CollK.step2 hat0 hC wx0 wx1 hlk hat
      have hcs3 : (ss ++ [(x1, x2)]).length + cnt2 ≤ Maps.size D0 := by simp; omega
      go_roundw
      case rel => exact ⟨_, cnt2, ss ++ [(x1, x2)], hrg3, hcs3, hC3, hJ4⟩
      case measure => rw [hrg3.left_eq, hrg.left_eq]; exact hlt

theorem keys_in (n : Nat) (mb : Option Nat) (w : World) :
    CallsIn Fence.wide n Try.prog 56 #[.map mb] w fun e w' => e = .returned (.func (.func 62) #[] #[.pointer (some ⟨w.heap.size, 0, none⟩)]) ∧ w' = w.alloc (.cells #[.map mb] 62) := by
  refine callsIn_of_wp Try.func56 rfl trivial ?_ rfl
  simp only [Try.ntmps56, List.size_toArray, List.length_cons, List.length_nil, Nat.reduceAdd, Nat.reduceSub, Array.replicate_succ, Array.replicate_zero, List.push_toArray, List.append_toArray, List.nil_append, List.cons_append]
  gi_wp2
  go_ret
  exact ⟨rfl, rfl⟩

/-- maps.Keys hands back an iterator over the map's keys. -/
theorem keys_gives (n : Nat) (hn : 1 ≤ n) (Bm b nn : Nat) (D0 : DataW Value) (f : Int → Int → Option Value) (hat : At D0 f) (w : World) (hBm : Bm < w.heap.size) (hm : w.cell? ⟨Bm, 0, none⟩ = some (.map (some b))) (hown : w.ownsMap Try.prog 36 KV b nn D0) :
    SeqGives Fence.wide n Try.prog 62 #[.pointer (some ⟨Bm, 0, none⟩)] encK (KeysAre f) (Maps.size D0) w := fun l J W hW hJ hY h0 => by
  have hown' : W.ownsMap Try.prog 36 KV b nn D0 := by
    have hbl := hown.lt
    obtain ⟨es, clock, hb, Ft, hs, hD⟩ := hown
    exact ⟨es, clock, (hW.block b hbl).trans hb, Ft, hs, hD⟩
  exact keysIt_in n hn l Bm b nn D0 f hat J hY W hJ ((hW.cell (p := ⟨Bm, 0, none⟩) hBm).trans hm) hown' h0

end Go.Proofs.Ytifdfelpbonckaa
