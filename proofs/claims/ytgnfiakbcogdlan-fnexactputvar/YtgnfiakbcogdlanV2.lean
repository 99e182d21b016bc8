/- A map of variables: what it holds, name by name; (impl.variables).put. -/
import Derived.Test.YtgnfiakbcogdlanV1
import Derived.Maps.OwnSet
import Derived.Maps.OwnOps
import Derived.Sort.KeysCollected
namespace Go.Proofs.Ytgnfiakbcogdlan
open Go.ChangeShapes Go.WideShapes Go.ChangeAt Go.RowKit Go.Maps Go.Deep Go.Joins
set_option linter.unusedVariables false
set_option maxRecDepth 100000
attribute [local go_sem ↓] Go.wp_at_zero Go.wp_at_succ

theorem slaw : Keyed Try.prog 9 := string_keyed Try.underlying9

/-- What the map's elements are read as: themselves. -/
def KS (v : Value) : Option (DataW Value × List MemPlace) := some (.held v, [])
def slit (s : ByteArray) : Lit := .string s.data.toList

theorem skey_is {s : ByteArray} (hs : s.size ≤ maxLen) : keyOf Try.prog 9 (.string s) = some (slit s) := by
  simp [keyOf, Try.underlying9, mapKey, slit, hs]
theorem slit_inj {s s' : ByteArray} (h : slit s = slit s') : s = s' := by
  unfold slit at h
  exact bytes_inj (by simpa using h)
theorem slit_key {s : ByteArray} (hs : s.size ≤ maxLen) : WideAt.IsKeyLit (slit s) := slaw.key (skey_is hs)

/-- What the datum D of a map says at each name. -/
def AtS (D : DataW Value) (f : ByteArray → Option Int) : Prop := IsMap D ∧ ∀ s, s.size ≤ maxLen → ∀ z, D.atKey (slit s) z = (match f s with | some v => .held (.int .i64 v) | none => z)
def putS (f : ByteArray → Option Int) (s : ByteArray) (v : Int) : ByteArray → Option Int := fun s' => if s' = s then some v else f s'
def delS (f : ByteArray → Option Int) (s : ByteArray) : ByteArray → Option Int := fun s' => if s' = s then none else f s'
theorem AtS.empty : AtS (.map []) (fun _ => none) := ⟨isMap_empty, fun _ _ _ => rfl⟩
theorem AtS.put {D : DataW Value} {f : ByteArray → Option Int} (h : AtS D f) {s : ByteArray} (hs : s.size ≤ maxLen) (v : Int) : AtS (D.put (slit s) (.held (.int .i64 v))) (putS f s v) := by
  refine ⟨h.1.put _ _, fun s' hs' z => ?_⟩
  by_cases e : s' = s
  · subst e
    rw [atKey_put_same h.1 (slit_key hs)]
    simp [putS]
  · rw [atKey_put_other (fun e' => e (slit_inj e')), h.2 s' hs' z]
    simp [putS, e]
theorem AtS.del {D : DataW Value} {f : ByteArray → Option Int} (h : AtS D f) (s : ByteArray) : AtS (D.del (slit s)) (delS f s) := by
  refine ⟨h.1.del _, fun s' hs' z => ?_⟩
  by_cases e : s' = s
  · subst e
    rw [atKey_del_same]
    simp [delS]
  · rw [atKey_del_other (fun e' => e (slit_inj e')), h.2 s' hs' z]
    simp [delS, e]

/-- Block b is a map of variables of the values f. -/
def VMap (w : World) (b n : Nat) (f : ByteArray → Option Int) : Prop := ∃ D, w.ownsMap Try.prog 9 KS b n D ∧ AtS D f
theorem VMap.of_block {w x : World} {b n : Nat} {f : ByteArray → Option Int} (h : VMap w b n f) (e : x.heap[b]? = w.heap[b]?) : VMap x b n f := by
  obtain ⟨D, ⟨es, clock, hb, Ft, hs, hD⟩, h2⟩ := h
  exact ⟨D, ⟨es, clock, e.trans hb, Ft, hs, hD⟩, h2⟩
theorem VMap.lt {w : World} {b n : Nat} {f : ByteArray → Option Int} (h : VMap w b n f) : b < w.heap.size := by obtain ⟨D, h1, _⟩ := h; exact h1.lt
theorem VMap.obj {w : World} {b n : Nat} {f : ByteArray → Option Int} (h : VMap w b n f) : ∃ es clock, w.heap[b]? = some (.map es clock) := by
  obtain ⟨D, ⟨es, clock, hb, _⟩, _⟩ := h
  exact ⟨es, clock, hb⟩
theorem VMap.made (w : World) : VMap (w.alloc (.map #[] 0)) w.heap.size 0 (fun _ => none) := ⟨_, World.ownsMap_made w Try.prog 9 KS, AtS.empty⟩
theorem VMap.mono {w : World} {b n n' : Nat} {f : ByteArray → Option Int} (h : VMap w b n f) (hn : n ≤ n') : VMap w b n' f := by obtain ⟨D, h1, h2⟩ := h; exact ⟨D, h1.mono hn, h2⟩

theorem zeroIntS (w : World) : (zeroValue 3).run Try.prog w = .ok (.int .i64 0) w := by kernel_rfl
theorem VMap.look {w : World} {b n : Nat} {f : ByteArray → Option Int} (h : VMap w b n f) {s : ByteArray} (hs : s.size ≤ maxLen) :
    (Instr.lookup 83 (.map (some b)) (.string s) false).run Try.prog w = .ok (.int .i64 ((f s).getD 0)) w := by
  obtain ⟨D, h1, h2⟩ := h
  obtain ⟨v, ps, hrun, hv⟩ := h1.lookup slaw Try.underlying83 (zeroIntS w) (zd := .held (.int .i64 0)) (zp := []) rfl (skey_is hs)
  rw [hrun, h2.2 s hs] at *
  unfold KS at hv
  simp only [Option.some.injEq, Prod.mk.injEq] at hv
  cases hf : f s with
  | none => rw [hf] at hv; simp at hv; rw [hv.1]; rfl
  | some x => rw [hf] at hv; simp at hv; rw [hv.1]; rfl

theorem gb_trV {a b c : World} {row : Option Nat} (h : a.grownBy b row) (k : b.grownBy c row) : a.grownBy c row :=
  ⟨k.os.trans h.os, k.tape.trans h.tape, k.output.trans h.output, Nat.le_trans h.size k.size, fun j hj hne => (k.block j (Nat.lt_of_lt_of_le hj h.size) hne).trans (h.block j hj hne)⟩

set_option maxHeartbeats 1000000 in
theorem varsPut_own (b n : Nat) (f : ByteArray → Option Int) (s : ByteArray) (v : Int) (w : World) (h : VMap w b n f) (hn : n < 4611686018427387904) (hs : s.size ≤ maxLen) :
    Calls Try.prog 48 #[.map (some b), .string s, .int .i64 v] w fun e w' => e = .returned (.tuple #[]) ∧ VMap w' b (n + 1) (putS f s v) ∧ w.mapTurned w' b := by
  obtain ⟨D, hown, hat⟩ := h
  have hlt := hown.lt
  have ka := (hat.del s).put hs v
  have hm : putS (delS f s) s v = putS f s v := by
    funext s'
    unfold putS delS
    by_cases e : s' = s
    · simp [e]
    · simp [e]
  rw [hm] at ka
  clear hm
  go_enter Try.func48, Try.ntmps48
  go_wp2_with (first
    | (at_delete; refine wpList_delete_own _ rfl _ _ 83 9 rfl 3 slaw Try.underlying83 KS b n D rfl hown _ _ rfl (skey_is hs) ?_; intro w1 hown1 hturn1)
    | (at_mapUpdate; refine wpList_mapUpdate_in _ rfl _ _ _ 83 rfl 9 3 slaw Try.underlying83 KS b n _ rfl hown1 (by unfold maxLen; omega) _ _ _ rfl rfl (skey_is hs) _ [] rfl ?_; intro w2 hown2 hturn2))
  refine bodyPost_end (v := .tuple #[]) (by simp [results, Try.results48, go_sem]) rfl ⟨rfl, ⟨_, hown2, ka⟩, ?_⟩
  exact hturn1.trans hturn2
end Go.Proofs.Ytgnfiakbcogdlan
