import Derived.Test.YtfahldimdeflkaaGreatDoorCopy0
import Derived.Maps.OwnSet
import Derived.Maps.OwnOps
import Derived.DeepKeys4
/- A map of the call's own whose keys are Key and whose elements are values: what it holds, key by key. -/
namespace Go.Proofs.YtfahldimdeflkaaGreatDoor
open Go.ChangeShapes Go.WideShapes Go.ChangeAt Go.RowKit Go.Maps
set_option linter.unusedVariables false
set_option maxRecDepth 100000

theorem mlaidOut : laidOutB Tryz.prog = true := by kernel_rfl
theorem mwide : (match Tryz.prog.underlying 46 with | some (.array _ _) | some (.struct _) => true | _ => false) = true := by rw [Tryz.underlying46]
theorem mlaw : Keyed Tryz.prog 46 := Keyed.of_law (deep_law_laid mlaidOut (m := 2) (by omega) (of_decide_eq_true (by kernel_rfl)) (by kernel_rfl) mwide)

/-- What the map's elements are read as: themselves. -/
def KV (v : Value) : Option (DataW Value × List MemPlace) := some (.held v, [])

def klit (t r : Int) : Lit := .string (keyBytes [.int .i64 t, .int .i64 r])

theorem key_is {t r : Int} (ht : wf t) (hr : wf r) : keyOf Tryz.prog 46 (.agg #[.int .i64 t, .int .i64 r]) = some (klit t r) := by
  have hk : Tryz.prog.keyType 46 = true := by kernel_rfl
  have hc : Tryz.prog.cellsOf 46 = 2 := by kernel_rfl
  have hi : Tryz.prog.cellsOf 3 = 1 := by kernel_rfl
  obtain ⟨m, hm⟩ : ∃ m, Tryz.prog.types.size = m + 1 := ⟨Tryz.prog.types.size - 1, by have : 0 < Tryz.prog.types.size := of_decide_eq_true (by kernel_rfl); omega⟩
  unfold keyOf
  rw [Tryz.underlying46]
  simp only [hk, Value.formed, Tryz.underlying46, hc, hm]
  simp [Value.cells, Program.keyLits, Tryz.underlying46, Tryz.underlying3, hc, hi, ht, hr, klit]

theorem klit_inj {t r t' r' : Int} (ht : wf t) (hr : wf r) (ht' : wf t') (hr' : wf r') (h : klit t r = klit t' r') : t = t' ∧ r = r' := by
  have := mlaw.inj (key_is ht hr) (h ▸ key_is ht' hr')
  simpa using this

theorem klit_key {t r : Int} (ht : wf t) (hr : wf r) : WideAt.IsKeyLit (klit t r) := mlaw.key (key_is ht hr)

/-- What the datum D of a map says at each key. -/
def At (D : DataW Value) (f : Int → Int → Option Value) : Prop := IsMap D ∧ ∀ t r, wf t → wf r → ∀ z, D.atKey (klit t r) z = (match f t r with | some v => .held v | none => z)

def put2 (f : Int → Int → Option Value) (t r : Int) (v : Value) : Int → Int → Option Value := fun t' r' => if t' = t ∧ r' = r then some v else f t' r'

theorem At.empty : At (.map []) (fun _ _ => none) := ⟨isMap_empty, fun _ _ _ _ _ => rfl⟩

theorem At.put {D : DataW Value} {f : Int → Int → Option Value} (h : At D f) {t r : Int} (ht : wf t) (hr : wf r) (v : Value) : At (D.put (klit t r) (.held v)) (put2 f t r v) := by
  refine ⟨h.1.put _ _, fun t' r' ht' hr' z => ?_⟩
  by_cases e : t' = t ∧ r' = r
  · obtain ⟨rfl, rfl⟩ := e
    rw [atKey_put_same h.1 (klit_key ht hr)]
    simp [put2]
  · rw [atKey_put_other (fun e' => e (klit_inj ht' hr' ht hr e')), h.2 t' r' ht' hr' z]
    simp [put2, e]

theorem zeroVers (w : World) : (zeroValue 92).run Tryz.prog w = .ok (.slice none 0 0) w := by kernel_rfl

theorem look_vers {w : World} {b n : Nat} {D : DataW Value} {f : Int → Int → Option Value} (h : w.ownsMap Tryz.prog 46 KV b n D) (ha : At D f) {t r : Int} (ht : wf t) (hr : wf r) :
    (Instr.lookup 169 (.map (some b)) (.agg #[.int .i64 t, .int .i64 r]) false).run Tryz.prog w = .ok ((f t r).getD (.slice none 0 0)) w := by
  obtain ⟨v, ps, hrun, hv⟩ := h.lookup mlaw Tryz.underlying169 (zeroVers w) (zd := .held (.slice none 0 0)) (zp := []) rfl (key_is ht hr)
  rw [hrun, ha.2 t r ht hr] at *
  unfold KV at hv
  simp only [Option.some.injEq, Prod.mk.injEq] at hv
  cases hf : f t r with
  | none => rw [hf] at hv; simp at hv; rw [hv.1]; rfl
  | some x => rw [hf] at hv; simp at hv; rw [hv.1]; rfl

end Go.Proofs.YtfahldimdeflkaaGreatDoor
