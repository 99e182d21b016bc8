import Derived.Test.YtmecbppblbmchaaGreatDoorOk
import Derived.Maps.OwnSet
import Derived.Maps.OwnOps
import Derived.DeepKeys4
import Derived.Test.YtmecbppblbmchaaGreatDoorSpecOk
import Derived.Laws.StructEq
/- A map of the call's own whose keys are Key and whose elements are values: what it holds, key by key. -/
namespace Go.Proofs.YtmecbppblbmchaaGreatDoor
open Go.ChangeShapes Go.WideShapes Go.ChangeAt Go.RowKit Go.Maps
set_option linter.unusedVariables false
set_option maxRecDepth 100000

theorem mlaidOut : laidOutB Tryz.prog = true := by kernel_rfl
theorem mwide : (match Tryz.prog.underlying 46 with | some (.array _ _) | some (.struct _) => true | _ => false) = true := by rw [Tryz.underlying46]
theorem mlaw : Keyed Tryz.prog 46 := Keyed.of_law (deep_law_laid mlaidOut (m := 2) (by omega) (of_decide_eq_true (by kernel_rfl)) (by kernel_rfl) mwide)

/-- What the map's elements are read as: themselves. -/
def KV (v : Value) : Option (DataW Value × List MemPlace) := some (.held v, [])

def klit (t r : Int) : Lit := .string (keyBytes [.int .i64 t, .int .i64 r])

theorem key_is {t r : Int} (ht : wf t) (hr : wf r) : keyOf Tryz.prog 46 (.agg #[.int .i64 t, .int .i64 r]) = some (klit t r) := by
  have hk : Tryz.prog.keyType 46 = true := by kernel_rfl
  have hc : Tryz.prog.cellsOf 46 = 2 := by kernel_rfl
  have hi : Tryz.prog.cellsOf 3 = 1 := by kernel_rfl
  obtain ⟨m, hm⟩ : ∃ m, Tryz.prog.types.size = m + 1 := ⟨Tryz.prog.types.size - 1, by have : 0 < Tryz.prog.types.size := of_decide_eq_true (by kernel_rfl); omega⟩
  unfold keyOf
  rw [Tryz.underlying46]
  simp only [hk, Value.formed, Tryz.underlying46, hc, hm]
  simp [Value.cells, Program.keyLits, Tryz.underlying46, Tryz.underlying3, hc, hi, ht, hr, klit]

theorem klit_inj {t r t' r' : Int} (ht : wf t) (hr : wf r) (ht' : wf t') (hr' : wf r') (h : klit t r = klit t' r') : t = t' ∧ r = r' := by
  have := mlaw.inj (key_is ht hr) (h ▸ key_is ht' hr')
  simpa using this

theorem klit_key {t r : Int} (ht : wf t) (hr : wf r) : WideAt.IsKeyLit (klit t r) := mlaw.key (key_is ht hr)

/-- What the datum D of a map says at each key. -/
def At (D : DataW Value) (f : Int → Int → Option Value) : Prop := IsMap D ∧ ∀ t r, wf t → wf r → ∀ z, D.atKey (klit t r) z = (match f t r with | some v => .held v | none => z)

def put2 (f : Int → Int → Option Value) (t r : Int) (v : Value) : Int → Int → Option Value := fun t' r' => if t' = t ∧ r' = r then some v else f t' r'

theorem At.empty : At (.map []) (fun _ _ => none) := ⟨isMap_empty, fun _ _ _ _ _ => rfl⟩

theorem At.put {D : DataW Value} {f : Int → Int → Option Value} (h : At D f) {t r : Int} (ht : wf t) (hr : wf r) (v : Value) : At (D.put (klit t r) (.held v)) (put2 f t r v) := by
  refine ⟨h.1.put _ _, fun t' r' ht' hr' z => ?_⟩
  by_cases e : t' = t ∧ r' = r
  · obtain ⟨rfl, rfl⟩ := e
    rw [atKey_put_same h.1 (klit_key ht hr)]
    simp [put2]
  · rw [atKey_put_other (fun e' => e (klit_inj ht' hr' ht hr e')), h.2 t' r' ht' hr' z]
    simp [put2, e]

theorem zeroVers (w : World) : (zeroValue 92).run Tryz.prog w = .ok (.slice none 0 0) w := by kernel_rfl

theorem look_vers {w : World} {b n : Nat} {D : DataW Value} {f : Int → Int → Option Value} (h : w.ownsMap Tryz.prog 46 KV b n D) (ha : At D f) {t r : Int} (ht : wf t) (hr : wf r) :
    (Instr.lookup 169 (.map (some b)) (.agg #[.int .i64 t, .int .i64 r]) false).run Tryz.prog w = .ok ((f t r).getD (.slice none 0 0)) w := by
  obtain ⟨v, ps, hrun, hv⟩ := h.lookup mlaw Tryz.underlying169 (zeroVers w) (zd := .held (.slice none 0 0)) (zp := []) rfl (key_is ht hr)
  rw [hrun, ha.2 t r ht hr] at *
  unfold KV at hv
  simp only [Option.some.injEq, Prod.mk.injEq] at hv
  cases hf : f t r with
  | none => rw [hf] at hv; simp at hv; rw [hv.1]; rfl
  | some x => rw [hf] at hv; simp at hv; rw [hv.1]; rfl

end Go.Proofs.YtmecbppblbmchaaGreatDoor

/- Reading: versions up to an hour, chains by key, and both ReadAt functions. -/
namespace Go.Proofs.YtmecbppblbmchaaGreatDoor
open Go.ChangeShapes Go.WideShapes Go.ChangeAt Go.RowKit Go.Sort Go.Maps
set_option linter.unusedVariables false
set_option maxRecDepth 100000
attribute [local go_sem ↓] Go.wp_at_zero Go.wp_at_succ

/-- The first k versions, and no more, are not later than h. -/
def IsUntil (l : List Vr) (h : Int) (k : Nat) : Prop := k ≤ l.length ∧ (∀ j, j < k → (vAt l j).1 ≤ h) ∧ (k < l.length → h < (vAt l k).1)
theorem IsUntil.one {l : List Vr} {h : Int} {a b : Nat} (ha : IsUntil l h a) (hb : IsUntil l h b) : a = b := by
  rcases Nat.lt_trichotomy a b with hlt | e | hlt
  · have h1 := hb.2.1 a hlt
    have h2 := ha.2.2 (by have := hb.1; omega)
    omega
  · exact e
  · have h1 := ha.2.1 b hlt
    have h2 := hb.2.2 (by have := ha.1; omega)
    omega
/-- The version behind the first k. -/
def rdV (l : List Vr) (k : Nat) : Vr := if k = 0 then (0, 0) else vAt l (k - 1)

theorem versUntil_any (v : Value) (l : List Vr) (h : Int) (w : World) {lo hi : Nat} (hl : VersAt lo hi w v l) :
    Calls Tryz.prog 133 #[v, .int .i64 h] w fun e w' => ∃ k : Nat, e = .returned (.int .i64 k) ∧ IsUntil l h k ∧ w' = w := by
  obtain ⟨a, cap, rfl, hm, hc⟩ := hl
  unfold maxLen at hm
  go_enter Tryz.func133, Tryz.ntmps133
  go_wp2
  go_loop [8] (fun i => ∃ k : Nat, k ≤ l.length ∧ i = .int .i64 k ∧ ∀ j, j < k → (vAt l j).1 ≤ h) (fun i => l.length - (intOf i).toNat)
  case atStart => exact ⟨0, Nat.zero_le _, rfl, fun j hj => absurd hj (Nat.not_lt_zero _)⟩
  case round =>
    obtain ⟨k, hk, rfl, hs⟩ := hrel
    by_cases hlt : k < l.length
    · obtain ⟨b, off, rfl, _, _, hcc⟩ := hc (by omega)
      have c0 := (hcc k hlt).1
      clear hcc hc
      by_cases hgt : h < (vAt l k).1
      · go_wp2
        go_ret
        exact ⟨k, rfl, ⟨by omega, hs, fun _ => hgt⟩, rfl⟩
      · go_wp2
        go_round
        case rel =>
          refine ⟨k + 1, by omega, by go_num, fun j hj => ?_⟩
          by_cases e : j = k
          · subst e; omega
          · exact hs j (by omega)
        case measure => simp [intOf]; omega
    · have hkk : k = l.length := by omega
      clear hc
      go_wp2
      go_ret
      exact ⟨l.length, rfl, ⟨by omega, fun j hj => hs j (by omega), fun h => by omega⟩, rfl⟩

theorem verAt_any (v : Value) (l : List Vr) (h : Int) (w : World) {lo hi : Nat} (hl : VersAt lo hi w v l) :
    Calls Tryz.prog 119 #[v, .int .i64 h] w fun e w' => ∃ k : Nat, e = .returned (.agg #[.int .i64 (rdV l k).1, .int .i64 (rdV l k).2]) ∧ IsUntil l h k ∧ Below w.heap.size w w' := by
  have hl2 := hl
  obtain ⟨a, cap, hv, hm, hc⟩ := hl2
  subst hv
  unfold maxLen at hm
  have hbx : Below w.heap.size w (w.alloc (Obj.cells #[Value.int IntKind.i64 0, Value.int IntKind.i64 0] 123)) := (Below.refl _ _).alloc (Nat.le_refl _) _
  go_enter Tryz.func119, Tryz.ntmps119
  go_wp2_with fail
  refine (versUntil_any _ l h _ (hl.stays hbx)).mono ?_
  rintro e w2 ⟨k, rfl, hk, rfl⟩
  by_cases hz : k = 0
  · have hz' : ((k : Int) == 0) = true := by simp [hz]
    have HZ : Hid (k = 0) := hz
    clear hz hc
    go_wp2
    refine bodyPost_ret (v := .agg #[.int .i64 0, .int .i64 0]) (by simp [results, Tryz.results119, go_sem]) rfl ⟨k, by simp [rdV, HZ.out], hk, hbx⟩
  · have hz' : ((k : Int) == 0) = false := by rw [beq_eq_false_iff_ne]; omega
    have hk1 := hk.1
    obtain ⟨b, off, rfl, _, _, hcc⟩ := hc (by omega)
    have c0 := cell_stays hbx (hcc (k - 1) (by omega)).1
    have c1 := cell_stays hbx (hcc (k - 1) (by omega)).2
    clear hcc hc
    go_wp2
    refine bodyPost_ret (v := .agg #[.int .i64 (vAt l (k - 1)).1, .int .i64 (vAt l (k - 1)).2]) (by simp [results, Tryz.results119, go_sem]) rfl ⟨k, by simp [rdV, hz], hk, (Below.refl _ _).alloc (Nat.le_refl _) _⟩

/-! ### Chains by key -/

def km (l : List Ch) (i : Nat) (t r : Int) : Prop := (cAt l i).t = t ∧ (cAt l i).r = r

/-- What the first k chains give each key: the last one's versions. -/
def ByKey (lo hi : Nat) (w : World) (l : List Ch) (k : Nat) (f : Int → Int → Option Value) : Prop :=
  ∀ t r, (f t r = none ∧ ∀ i, i < k → ¬ km l i t r) ∨
    ∃ i, i < k ∧ km l i t r ∧ (∀ j, i < j → j < k → ¬ km l j t r) ∧ ∃ a c, f t r = some (.slice a (cAt l i).l.length c) ∧ VersAt lo hi w (.slice a (cAt l i).l.length c) (cAt l i).l

theorem ByKey.start (lo hi : Nat) (w : World) (l : List Ch) : ByKey lo hi w l 0 (fun _ _ => none) := fun _ _ => .inl ⟨rfl, fun i hi => absurd hi (Nat.not_lt_zero _)⟩

theorem ByKey.step {lo hi : Nat} {w : World} {l : List Ch} {k : Nat} {f : Int → Int → Option Value} (h : ByKey lo hi w l k f) {a : Option Addr} {c : Nat} (hv : VersAt lo hi w (.slice a (cAt l k).l.length c) (cAt l k).l) :
    ByKey lo hi w l (k + 1) (put2 f (cAt l k).t (cAt l k).r (.slice a (cAt l k).l.length c)) := by
  intro t r
  by_cases e : km l k t r
  · obtain ⟨rfl, rfl⟩ := e
    exact .inr ⟨k, by omega, ⟨rfl, rfl⟩, fun j h1 h2 => by omega, a, c, by simp [put2], hv⟩
  · have e' : ¬ (t = (cAt l k).t ∧ r = (cAt l k).r) := fun e2 => e ⟨e2.1.symm, e2.2.symm⟩
    rcases h t r with ⟨h1, h2⟩ | ⟨i, h1, h2, h3, a', c', h4, h5⟩
    · refine .inl ⟨by simp [put2, e', h1], fun i hi => ?_⟩
      by_cases ei : i = k
      · subst ei; exact e
      · exact h2 i (by omega)
    · refine .inr ⟨i, by omega, h2, fun j hj1 hj2 => ?_, a', c', by simp [put2, e', h4], h5⟩
      by_cases ej : j = k
      · subst ej; exact e
      · exact h3 j hj1 (by omega)

theorem makeMap_hint (n : Int) (w : World) : (Instr.makeMap 169 (some (.int .i64 n))).run Tryz.prog w = .ok (.map (some w.heap.size)) (w.alloc (.map #[] 0)) := by
  simp [Instr.makeMap, run_underlying Tryz.underlying169, asInt, asIntOf]

theorem chainsByKey_any (v : Value) (l : List Ch) (w : World) {lo hi : Nat} (h : ChainsAt lo hi w v l) (hw : WfCh l) (hn : l.length ≤ 1048576) :
    Calls Tryz.prog 120 #[.agg #[v]] w fun e w' => ∃ b D f, e = .returned (.map (some b)) ∧ w'.ownsMap Tryz.prog 46 KV b l.length D ∧ At D f ∧ ByKey lo hi w l l.length f ∧ w.heap.size ≤ b ∧ Below w.heap.size w w' := by
  obtain ⟨a, cap, rfl, hm, hc⟩ := h
  have hmk := makeMap_hint
  go_enter Tryz.func120, Tryz.ntmps120
  go_wp2
  go_loopw [13] (fun i wr => ∃ (k : Nat) (D : DataW Value) (f : Int → Int → Option Value), k ≤ l.length ∧ i = .int .i64 k ∧ Below w.heap.size w wr ∧ wr.ownsMap Tryz.prog 46 KV (w.heap.size + 1) k D ∧ At D f ∧ ByKey lo hi w l k f) (fun i _ => l.length - (intOf i).toNat)
  case atStart =>
    refine ⟨0, .map [], _, Nat.zero_le _, rfl, ((Below.refl _ _).alloc (Nat.le_refl _) _).alloc (by simp) _, ?_, At.empty, ByKey.start lo hi w l⟩
    have := World.ownsMap_made (w.alloc (Obj.cells #[Value.slice a l.length cap] 32)) Tryz.prog 46 KV
    simpa using this
  case round =>
    obtain ⟨k, D, f, hk, rfl, hb, hown, hat, hby⟩ := hrel
    by_cases hlt : k < l.length
    · obtain ⟨b, off, rfl, hlo, hhi, hcc⟩ := hc (by omega)
      obtain ⟨c0, c1, a2, cap2, c2, c3⟩ := hcc k hlt
      have hby' := hby.step c3
      replace c0 := cell_stays hb c0
      replace c1 := cell_stays hb c1
      replace c2 := cell_stays hb c2
      have wk := hw k hlt
      clear hcc hc
      go_wp2_with (at_mapUpdate; refine wpList_mapUpdate_own _ rfl _ _ _ 169 rfl 46 92 mlaw Tryz.underlying169 KV (w.heap.size + 1) k D rfl (hown.alloc _) (by unfold maxLen; omega) _ _ _ rfl rfl (key_is wk.1 wk.2) _ [] rfl ?_; intro w1 hown1 hgrow1)
      have hsz := hb.size
      go_roundw
      case rel => exact ⟨k + 1, _, _, by omega, by go_num, (hb.alloc hb.size _).grown hgrow1 (by simp; omega) (fun j hj => by cases hj; omega), hown1, hat.put wk.1 wk.2 _, hby'⟩
      case measure => simp [intOf]; omega
    · have hkl : k = l.length := by omega
      subst hkl
      go_wp2
      go_ret
      exact ⟨_, D, f, rfl, hown, hat, hby, by omega, hb⟩

theorem key_held : Tryz.prog.stoodInHeld 46 = false := by kernel_rfl
theorem key_guard : Tryz.prog.eqGuardType Tryz.prog.depth 46 = false := by kernel_rfl
theorem key_fields : Tryz.prog.underlying 46 = some (.struct (Tryz.prog.fieldsOf 46)) := by kernel_rfl
theorem key_eql (a b c d : Int) (w : World) : (binOp .eql 46 (.agg #[.int .i64 a, .int .i64 b]) (.agg #[.int .i64 c, .int .i64 d])).run Tryz.prog w = .ok (.bool (decide (a = c ∧ b = d))) w := by
  by_cases h1 : a = c
  · by_cases h2 : b = d
    · simp [go_sem, h1, h2]
    · simp [go_sem, h1, h2]
  · simp [go_sem, h1]

/-- The first chain of that key, or none. -/
def IsFirst (l : List Ch) (t r : Int) (x : Int) : Prop := (x = -1 ∧ ∀ i, i < l.length → ¬ km l i t r) ∨ ∃ n : Nat, x = n ∧ n < l.length ∧ km l n t r ∧ ∀ i, i < n → ¬ km l i t r

theorem l1chain_any (v : Value) (l : List Ch) (t r : Int) (w : World) {lo hi : Nat} (h : ChainsAt lo hi w v l) :
    Calls Tryz.prog 100 #[.agg #[v], .agg #[.int .i64 t, .int .i64 r]] w fun e w' => ∃ x, e = .returned (.int .i64 x) ∧ IsFirst l t r x ∧ Below w.heap.size w w' := by
  obtain ⟨a, cap, rfl, hm, hc⟩ := h
  unfold maxLen at hm
  have hbx : Below w.heap.size w ((w.alloc (Obj.cells #[Value.slice a l.length cap] 32)).alloc (Obj.cells #[.int .i64 t, .int .i64 r] 46)) := ((Below.refl _ _).alloc (Nat.le_refl _) _).alloc (by simp) _
  go_enter Tryz.func100, Tryz.ntmps100
  go_wp2
  go_loopw [5] (fun i wr => ∃ k : Nat, k ≤ l.length ∧ i = .int .i64 k ∧ Below w.heap.size w wr ∧ wr.cell? ⟨w.heap.size, 0, none⟩ = some (.slice a l.length cap) ∧ wr.cell? ⟨w.heap.size + 1, 0, none⟩ = some (.int .i64 t) ∧ wr.cell? ⟨w.heap.size + 1, 1, none⟩ = some (.int .i64 r) ∧ ∀ j, j < k → ¬ km l j t r) (fun i _ => l.length - (intOf i).toNat)
  case atStart => exact ⟨0, Nat.zero_le _, rfl, hbx, by simp, by simp, by simp, fun j hj => absurd hj (Nat.not_lt_zero _)⟩
  case round =>
    obtain ⟨k, hk, rfl, hb, hp, hp1, hp2, hs⟩ := hrel
    by_cases hlt : k < l.length
    · obtain ⟨b, off, rfl, hlo, hhi, hcc⟩ := hc (by omega)
      obtain ⟨c0, c1, ca, cb, c2, c3⟩ := hcc k hlt
      have k0 := cell_regrown hp
      have k1 := cell_regrown hp1
      have k2 := cell_regrown hp2
      have k3 := cell_regrown (cell_stays hb c0)
      have k4 := cell_regrown (cell_stays hb c1)
      have i0 : (0 : Int) ≤ (k : Int) := by omega
      have i1 : (k : Int) < (l.length : Int) := by omega
      clear hc hcc c0 c1 c2 c3
      have keq := key_eql (cAt l k).t (cAt l k).r t r
      by_cases hkm : km l k t r
      · have hd : decide ((cAt l k).t = t ∧ (cAt l k).r = r) = true := decide_eq_true hkm
        rw [hd] at keq
        have HK : Hid (km l k t r) := hkm
        clear hkm hd
        go_wp2_with fail
        refine wp_region_quiet_below (by kernel_rfl) (by kernel_rfl) ?_
        repeat (go_big_quiet_step (fail))
        refine wpQuiet_nil ?_
        intro w2 hw2
        obtain ⟨⟨dq, osq⟩, hw3⟩ := hw2
        have hb2 : Below _ _ w2 := hw3 ▸ below_regrown _ dq osq
        clear hw3 keq
        go_wp2
        go_ret
        exact ⟨_, rfl, .inr ⟨k, rfl, hlt, HK.out, hs⟩, hb.trans (hb2.mono hb.size)⟩
      · have hd : decide ((cAt l k).t = t ∧ (cAt l k).r = r) = false := decide_eq_false hkm
        rw [hd] at keq
        have HK : Hid (¬ km l k t r) := hkm
        clear hkm hd
        go_wp2_with fail
        refine wp_region_quiet_below (by kernel_rfl) (by kernel_rfl) ?_
        repeat (go_big_quiet_step (fail))
        refine wpQuiet_nil ?_
        intro w2 hw2
        obtain ⟨⟨dq, osq⟩, hw3⟩ := hw2
        have hb2 : Below _ _ w2 := hw3 ▸ below_regrown _ dq osq
        clear hw3 keq
        go_wp2
        go_roundw
        case rel => exact ⟨k + 1, by omega, by go_num, hb.trans (hb2.mono hb.size), cell_stays hb2 hp, cell_stays hb2 hp1, cell_stays hb2 hp2, upto_succ hs HK.out⟩
        case measure => simp [intOf]; omega
    · go_wp2
      go_ret
      exact ⟨_, rfl, .inl ⟨rfl, fun i hi => hs i (by omega)⟩, hb⟩

/-- The last of the first q versions that is not later than h, or nothing. -/
def IsLast (l : List Vr) (h : Int) (q : Nat) (v : Vr) : Prop := (v = (0, 0) ∧ ∀ j, j < q → h < (vAt l j).1) ∨ ∃ i, i < q ∧ v = vAt l i ∧ (vAt l i).1 ≤ h ∧ ∀ j, i < j → j < q → h < (vAt l j).1

theorem IsLast.step_yes {l : List Vr} {h : Int} {q : Nat} (hq : (vAt l q).1 ≤ h) : IsLast l h (q + 1) (vAt l q) := .inr ⟨q, by omega, rfl, hq, fun j h1 h2 => by omega⟩
theorem IsLast.step_no {l : List Vr} {h : Int} {q : Nat} {v : Vr} (hl : IsLast l h q v) (hq : h < (vAt l q).1) : IsLast l h (q + 1) v := by
  rcases hl with ⟨rfl, h1⟩ | ⟨i, h1, h2, h3, h4⟩
  · exact .inl ⟨rfl, upto_succ h1 hq⟩
  · refine .inr ⟨i, by omega, h2, h3, fun j hj1 hj2 => ?_⟩
    by_cases e : j = q
    · subst e; exact hq
    · exact h4 j hj1 (by omega)

/-- What the specification reads. -/
def IsRead (l : List Ch) (t r h : Int) (v : Vr) : Prop := (v = (0, 0) ∧ ∀ i, i < l.length → ¬ km l i t r) ∨ ∃ n : Nat, n < l.length ∧ km l n t r ∧ (∀ i, i < n → ¬ km l i t r) ∧ IsLast (cAt l n).l h (cAt l n).l.length v


/-- What ReadAt answers: the value, and its hour. -/
def RAns (l : List Ch) (t r h : Int) (p : Int × Int) : Prop :=
  (¬ (storeOk l ∧ hourB h = true ∧ tabB t = true) ∧ p = (0, -1)) ∨ ((storeOk l ∧ hourB h = true ∧ tabB t = true) ∧ ∃ x : Vr, IsRead l t r h x ∧ p = (x.2, x.1))

theorem IsLast.one {l : List Vr} {h : Int} {q : Nat} {x y : Vr} (hx : IsLast l h q x) (hy : IsLast l h q y) : x = y := by
  rcases hx with ⟨rfl, h1⟩ | ⟨i, h1, rfl, h3, h4⟩ <;> rcases hy with ⟨rfl, g1⟩ | ⟨j, g1, rfl, g3, g4⟩
  · rfl
  · have := h1 j g1; omega
  · have := g1 i h1; omega
  · rcases Nat.lt_trichotomy i j with hlt | e | hlt
    · have := h4 j hlt g1; omega
    · rw [e]
    · have := g4 i hlt h1; omega

theorem IsRead.one {l : List Ch} {t r h : Int} {x y : Vr} (hx : IsRead l t r h x) (hy : IsRead l t r h y) : x = y := by
  rcases hx with ⟨rfl, h1⟩ | ⟨i, h1, h2, h3, h4⟩ <;> rcases hy with ⟨rfl, g1⟩ | ⟨j, g1, g2, g3, g4⟩
  · rfl
  · exact absurd g2 (h1 j g1)
  · exact absurd h2 (g1 i h1)
  · have e : i = j := by
      rcases Nat.lt_trichotomy i j with hlt | e | hlt
      · exact absurd h2 (g3 i hlt)
      · exact e
      · exact absurd g2 (h3 j hlt)
    subst e
    exact h4.one g4

theorem RAns.one {l : List Ch} {t r h : Int} {p q : Int × Int} (hp : RAns l t r h p) (hq : RAns l t r h q) : p = q := by
  rcases hp with ⟨h1, rfl⟩ | ⟨h1, x, hx, rfl⟩ <;> rcases hq with ⟨g1, rfl⟩ | ⟨g1, y, hy, rfl⟩
  · rfl
  · exact absurd g1 h1
  · exact absurd h1 g1
  · rw [hx.one hy]


theorem keys_up {l : List Ch} (h : storeOk l) : ∀ (i n : Nat), i + n + 1 < l.length → klB (cAt l i).t (cAt l i).r (cAt l (i + n + 1)).t (cAt l (i + n + 1)).r = true
  | i, 0, hi => by have := (h.2 (i + 1) hi).2.1 (by omega); simpa using this
  | i, n + 1, hi => klB_trans (keys_up h i n (by omega)) (by have := (h.2 (i + (n + 1) + 1) hi).2.1 (by omega); simpa [Nat.add_assoc] using this)

theorem keys_one {l : List Ch} (h : storeOk l) {i j : Nat} (hi : i < l.length) (hj : j < l.length) {t r : Int} (h1 : km l i t r) (h2 : km l j t r) : i = j := by
  have no : ∀ {a b : Nat}, a < b → b < l.length → km l a t r → km l b t r → False := fun {a b} hab hb ha hb' => by
    have := keys_up h a (b - a - 1) (by omega)
    rw [show a + (b - a - 1) + 1 = b by omega, klB_iff, ha.1, ha.2, hb'.1, hb'.2] at this
    omega
  rcases Nat.lt_trichotomy i j with hlt | e | hlt
  · exact (no hlt hj h1 h2).elim
  · exact e
  · exact (no hlt hi h2 h1).elim

theorem vers_up {l : List Vr} (h : versOk l) : ∀ (i n : Nat), i + n + 1 < l.length → (vAt l i).1 < (vAt l (i + n + 1)).1
  | i, 0, hi => by have := (h.2.2 (i + 1) hi).2.2 (by omega); simpa using this
  | i, n + 1, hi => by
    have h1 := vers_up h i n (by omega)
    have h2 := (h.2.2 (i + (n + 1) + 1) hi).2.2 (by omega)
    have e : i + (n + 1) + 1 - 1 = i + n + 1 := by omega
    rw [e] at h2
    omega

theorem until_last {l : List Vr} (h : versOk l) {hr : Int} {k : Nat} (hk : IsUntil l hr k) : IsLast l hr l.length (rdV l k) := by
  have later : ∀ j, k ≤ j → j < l.length → hr < (vAt l j).1 := fun j h1 h2 => by
    have h3 := hk.2.2 (by omega)
    by_cases e : j = k
    · subst e; exact h3
    · have := vers_up h k (j - k - 1) (by omega)
      rw [show k + (j - k - 1) + 1 = j by omega] at this
      omega
  by_cases hz : k = 0
  · subst hz
    exact .inl ⟨rfl, fun j hj => later j (Nat.zero_le _) hj⟩
  · refine .inr ⟨k - 1, by have := hk.1; omega, by simp [rdV, hz], hk.2.1 _ (by omega), fun j h1 h2 => later j (by omega) h2⟩

theorem byKey_read {lo hi : Nat} {w : World} {l : List Ch} {f : Int → Int → Option Value} (hs : storeOk l) (h : ByKey lo hi w l l.length f) (t r : Int) :
    ∃ (L : List Vr) (a : Option Addr) (c : Nat), (f t r).getD (.slice none 0 0) = .slice a L.length c ∧ VersAt lo hi w (.slice a L.length c) L ∧ ∀ hr k, IsUntil L hr k → IsRead l t r hr (rdV L k) := by
  rcases h t r with ⟨h1, h2⟩ | ⟨i, h1, h2, h3, a, c, h4, h5⟩
  · refine ⟨[], none, 0, by rw [h1]; rfl, ⟨none, 0, rfl, Nat.zero_le _, fun h => absurd h (Nat.lt_irrefl _)⟩, fun hr k hk => ?_⟩
    have := hk.1
    obtain rfl : k = 0 := by simpa using this
    exact .inl ⟨rfl, h2⟩
  · refine ⟨(cAt l i).l, a, c, by rw [h4]; rfl, h5, fun hr k hk => ?_⟩
    exact .inr ⟨i, h1, h2, fun j hj hk' => by have := keys_one hs (by omega) h1 hk' h2; omega, until_last (hs.2 i h1).2.2 hk⟩

/-- The boxes of a store and of a key stay while the call goes on. -/
def Boxes (w : World) (a : Option Addr) (n cap : Nat) (t r : Int) (x : World) : Prop := Below w.heap.size w x ∧ w.heap.size + 1 < x.heap.size ∧ x.cell? ⟨w.heap.size, 0, none⟩ = some (.slice a n cap) ∧ x.cell? ⟨w.heap.size + 1, 0, none⟩ = some (.int .i64 t) ∧ x.cell? ⟨w.heap.size + 1, 1, none⟩ = some (.int .i64 r)
theorem Boxes.kept {w x y : World} {a : Option Addr} {n cap : Nat} {t r : Int} (h : Boxes w a n cap t r x) (hb : Below x.heap.size x y) : Boxes w a n cap t r y :=
  ⟨h.1.trans (hb.mono h.1.size), Nat.lt_of_lt_of_le h.2.1 hb.size, cell_stays hb h.2.2.1, cell_stays hb h.2.2.2.1, cell_stays hb h.2.2.2.2⟩
theorem Boxes.set {w x : World} {a : Option Addr} {n cap : Nat} {t r : Int} (h : Boxes w a n cap t r x) {b : Nat} (hb : w.heap.size + 1 < b) (u u' : Value) : Boxes w a n cap t r ((x.setCell ⟨b, 0, none⟩ u).setCell ⟨b, 1, none⟩ u') := by
  have e : ∀ k, k ≤ w.heap.size + 1 → ((x.setCell ⟨b, 0, none⟩ u).setCell ⟨b, 1, none⟩ u').heap[k]? = x.heap[k]? := fun k hk => by
    rw [Below.heap_setCell _ _ _ _ (by simp; omega), Below.heap_setCell _ _ _ _ (by simp; omega)]
  exact ⟨(h.1.setCell (by simp; omega) _).setCell (by simp; omega) _, by simp only [size_setCell]; exact h.2.1, cell_same (e _ (by omega)) h.2.2.1, cell_same (e _ (by omega)) h.2.2.2.1, cell_same (e _ (by omega)) h.2.2.2.2⟩
/-- .. and the box of a copy. -/
def Boxes4 (w : World) (a : Option Addr) (n cap : Nat) (t r : Int) (b4 : Nat) (a4 : Option Addr) (c4 : Nat) (x : World) : Prop := Boxes w a n cap t r x ∧ x.cell? ⟨b4, 0, none⟩ = some (.slice a4 n c4)
theorem Boxes4.kept {w x y : World} {a a4 : Option Addr} {n cap b4 c4 : Nat} {t r : Int} (h : Boxes4 w a n cap t r b4 a4 c4 x) (hb : Below x.heap.size x y) : Boxes4 w a n cap t r b4 a4 c4 y :=
  ⟨h.1.kept hb, cell_stays hb h.2⟩

theorem lt_of_alloc {w x : World} {o : Obj} (h : (w.alloc o).heap.size ≤ x.heap.size) : w.heap.size < x.heap.size := by simp only [World.size_alloc] at h; omega
theorem below_alloc (w : World) (o : Obj) : Below w.heap.size w (w.alloc o) := (Below.refl _ _).alloc (Nat.le_refl _) _

end Go.Proofs.YtmecbppblbmchaaGreatDoor
