/- Variables: toVarS, szVarS, eqVarS; the reading of an argument. -/
import Derived.Test.YtjikmpdgednlaaaV0a
import Derived.Test.YtjikmpdgednlaaaOpen0
import Derived.Test.YtjikmpdgednlaaaTData
import Derived.Test.YtjikmpdgednlaaaRowOf
import Derived.Test.YtjikmpdgednlaaaRegLast
import Derived.Outline
import Derived.Handy
import Derived.Deep.RegionHeld3
import Derived.Deep.DrawnRows
import Derived.ChangeMaps5
namespace Go.Proofs.Ytjikmpdgednlaaa
open Go.ChangeShapes Go.WideShapes Go.ChangeAt Go.RowKit Go.Deep Go.Joins
set_option linter.unusedVariables false
set_option maxRecDepth 100000
attribute [local go_sem ↓] Go.wp_at_zero Go.wp_at_succ

theorem toVar_any (s : ByteArray) (n : Int) (w : World) :
    Calls Try.prog 41 #[.agg #[.string s, .int .i64 n]] w fun e w' => e = .returned (.agg #[.string s, .int .i64 n]) ∧ Below w.heap.size w w' := by
  go_enter Try.func41, Try.ntmps41
  go_wp2
  refine bodyPost_ret (v := .agg #[.string s, .int .i64 n]) (by simp [results, Try.results41, go_sem]) rfl ⟨rfl, ?_⟩
  go_grown

theorem infoVar : (Try.prog.info? 75).map (fun i => (i.zero, i.size, i.bytes)) = some (some (.agg #[.string ⟨#[]⟩, .int .i64 0]), 2, 24) := by kernel_rfl
theorem make_vars (n : Nat) (hn : n ≤ 1048576) (w : World) :
    (Instr.makeSlice 38 (.int .i64 (n : Int)) (.int .i64 (n : Int))).run Try.prog w = .ok (.slice (some ⟨w.heap.size, 0, none⟩) n n) (w.alloc (.cells (madeCells #[.string ⟨#[]⟩, .int .i64 0] (n * 2)) 75)) := by
  obtain ⟨i, hi, hz0, hz1, hz2⟩ := info_parts infoVar
  have hr := run_make (P := Try.prog) w 38 75 i _ Try.underlying38 hi hz0 .i64 .i64 n n (by omega) (Int.le_refl _) (by rw [hz2]; omega) (by omega)
  simpa [hz1, Value.cells] using hr

/-- Block b is a row of at least these variables, free to be written. -/
def OwnVa (w : World) (b : Nat) (l : List Va) : Prop := ∃ f : Nat → Value, RowOf w b 75 (l.length * 2) f ∧ ∀ i, i < l.length → f (i * 2) = .string (vaAt l i).1 ∧ f (i * 2 + 1) = .int .i64 (vaAt l i).2
theorem OwnVa.stays {w w' : World} {b : Nat} {l : List Va} (h : OwnVa w b l) (hb : Below w.heap.size w w') : OwnVa w' b l := by
  obtain ⟨f, h1, h2⟩ := h
  exact ⟨f, h1.of_block (hb.block _ h1.lt), h2⟩
theorem OwnVa.keep {w w' : World} {b : Nat} {l : List Va} (h : OwnVa w b l) (e : w'.heap[b]? = w.heap[b]?) : OwnVa w' b l := by
  obtain ⟨f, h1, h2⟩ := h
  exact ⟨f, h1.of_block e, h2⟩
theorem OwnVa.at {w : World} {b : Nat} {l : List Va} (h : OwnVa w b l) (hn : l.length ≤ 1048576) (cap : Nat) : VarsAt b (b + 1) w (.slice (some ⟨b, 0, none⟩) l.length cap) l := by
  obtain ⟨f, h1, h2⟩ := h
  refine ⟨_, _, rfl, by unfold maxLen; omega, fun _ => ⟨b, 0, rfl, Nat.le_refl _, by omega, fun i hi => ?_⟩⟩
  obtain ⟨e0, e1⟩ := h2 i hi
  have c0 := h1.cell (show i * 2 < l.length * 2 by omega)
  have c1 := h1.cell (show i * 2 + 1 < l.length * 2 by omega)
  rw [e0] at c0; rw [e1] at c1
  simpa using ⟨c0, c1⟩
theorem OwnVa.lt {w : World} {b : Nat} {l : List Va} (h : OwnVa w b l) : b < w.heap.size := by obtain ⟨f, h1, _⟩ := h; exact h1.lt

theorem toVarS_own (v : Value) (l : List Va) (w : World) {lo hi : Nat} (h : VarsAt lo hi w v l) (hn : l.length ≤ 1048576) :
    Calls Try.prog 21 #[v] w fun e w' => e = .returned (.slice (some ⟨w.heap.size, 0, none⟩) l.length l.length) ∧ OwnVa w' w.heap.size l ∧ Below w.heap.size w w' := by
  obtain ⟨a, cap, rfl, hm, hc⟩ := h
  have hmk := make_vars l.length hn
  go_enter Try.func21, Try.ntmps21
  go_wp2
  go_loopw [4] (fun i wr => ∃ (k : Nat) (f : Nat → Value), k ≤ l.length ∧ i = .int .i64 k ∧ Below w.heap.size w wr ∧ wr.rowIs w.heap.size 75 (l.length * 2) f ∧
      ∀ j, j < k → f (j * 2) = .string (vaAt l j).1 ∧ f (j * 2 + 1) = .int .i64 (vaAt l j).2) (fun i _ => l.length - (intOf i).toNat)
  case atStart =>
    exact ⟨0, _, Nat.zero_le _, rfl, (Below.refl _ _).alloc (Nat.le_refl _) _, ⟨_, Deep.blk_alloc_new _ _, size_madeCells _ _, fun i hi => by simp [madeCells, hi]; rfl⟩, fun j hj => absurd hj (Nat.not_lt_zero _)⟩
  case round =>
    obtain ⟨k, f, hk, rfl, hb, hrow, hf⟩ := hrel
    by_cases hlt : k < l.length
    · obtain ⟨b, off, rfl, hlo, hhi, hcc⟩ := hc (by omega)
      obtain ⟨c0, c1⟩ := hcc k hlt
      replace c0 := cell_stays hb c0
      replace c1 := cell_stays hb c1
      clear hcc hc
      go_wp2_with (go_at_call 41; refine (toVar_any _ _ _).mono ?_; rintro e w1 ⟨rfl, hb1⟩; have r1 := hrow.of_block (hb1.block _ hrow.lt); have z0 := r1.cell (show k * 2 < l.length * 2 by omega); have z1 := r1.frozen (k * 2); have z2 := r1.cell (show k * 2 + 1 < l.length * 2 by omega); have z3 := r1.frozen (k * 2 + 1))
      go_roundw
      case rel =>
        refine ⟨k + 1, _, by omega, by go_num, ((hb.trans (hb1.mono hb.size)).setCell (Nat.le_refl _) _).setCell (Nat.le_refl _) _, (r1.set _ _).set _ _, fun j hj => ?_⟩
        by_cases e : j = k
        · subst e; simp
        · obtain ⟨g1, g2⟩ := hf j (by omega)
          refine ⟨?_, ?_⟩
          · rw [if_neg (by omega), if_neg (by omega)]; exact g1
          · rw [if_neg (by omega), if_neg (by omega)]; exact g2
      case measure => simp [intOf]; omega
    · have hkl : k = l.length := by omega
      go_wp2
      go_ret
      exact ⟨rfl, ⟨f, RowOf.of_rowIs hrow, fun i hi => hf i (by omega)⟩, hb⟩

theorem szVar_any (s : ByteArray) (n : Int) (w : World) (hs : s.size ≤ maxLen) (left : Int) (h0 : 0 ≤ left) (h1 : left ≤ 1048576) :
    Calls Try.prog 33 #[.agg #[.string s, .int .i64 n], .int .i64 left] w fun e w' => ∃ q, e = .returned (.int .i64 q) ∧ q ≤ left ∧ (0 ≤ q → s.size ≤ 1048576) ∧ Below w.heap.size w w' := by
  unfold maxLen at hs
  have hbx : Below w.heap.size w (w.alloc (Obj.cells #[.string s, .int .i64 n] 71)) := (Below.refl _ _).alloc (Nat.le_refl _) _
  by_cases hls : left - s.size < 0
  · go_enter Try.func33, Try.ntmps33
    go_wp2
    go_ret
    exact ⟨_, rfl, by omega, by omega, hbx⟩
  · go_enter Try.func33, Try.ntmps33
    go_wp2
    go_ret
    exact ⟨_, rfl, by omega, by omega, hbx⟩

theorem szVarS_any (v : Value) (l : List Va) (w : World) {lo hi : Nat} (h : VarsAt lo hi w v l) (hw : WfVa l) (left : Int) (h0 : 0 ≤ left) (h1 : left ≤ 1048576) :
    Calls Try.prog 14 #[v, .int .i64 left] w fun e w' => ∃ q, e = .returned (.int .i64 q) ∧ q ≤ left ∧ (0 ≤ q → SmallV l) ∧ Below w.heap.size w w' := by
  obtain ⟨a, cap, rfl, hm, hc⟩ := h
  unfold maxLen at hm
  by_cases hlt : left - l.length < 0
  · go_enter Try.func14, Try.ntmps14
    go_wp2
    go_ret
    exact ⟨_, rfl, by omega, by omega, Below.refl _ _⟩
  · go_enter Try.func14, Try.ntmps14
    go_wp2
    go_loopw [1, 5] (fun q i wr => ∃ (k : Nat) (x : Int), k ≤ l.length ∧ i = .int .i64 k ∧ q = .int .i64 x ∧ 0 ≤ x ∧ x ≤ left ∧ Below w.heap.size w wr ∧ Hid (∀ j, j < k → (vaAt l j).1.size ≤ 1048576)) (fun _ i _ => l.length - (intOf i).toNat)
    case atStart => exact ⟨0, _, Nat.zero_le _, rfl, rfl, by omega, by omega, Below.refl _ _, fun j hj => absurd hj (Nat.not_lt_zero _)⟩
    case round =>
      obtain ⟨k, x, hk, rfl, rfl, hx0, hx1, hb, hs⟩ := hrel
      by_cases hkl : k < l.length
      · obtain ⟨b, off, rfl, hlo, hhi, hcc⟩ := hc (by omega)
        obtain ⟨c0, c1⟩ := hcc k hkl
        have c0 := cell_stays hb c0
        have c1 := cell_stays hb c1
        have hss := (hw k hkl).1
        clear hcc hc
        go_wp2_with (go_at_call 33; refine (szVar_any _ _ _ hss _ hx0 (by omega)).mono ?_; rintro e w1 ⟨q, rfl, hq, hl, hb1⟩)
        · go_ret
          exact ⟨_, rfl, by omega, by omega, hb.trans (hb1.mono hb.size)⟩
        · go_roundw
          case rel =>
            refine ⟨k + 1, q, by omega, by go_num, rfl, by omega, by omega, hb.trans (hb1.mono hb.size), fun j hj => ?_⟩
            by_cases e : j = k
            · subst e; exact hl (by omega)
            · exact hs.out j (by omega)
          case measure => simp [intOf]; omega
      · go_wp2
        go_ret
        exact ⟨_, rfl, by omega, fun _ => ⟨by omega, fun j hj => hs.out j (by omega)⟩, hb⟩

theorem eqVar_same (s : ByteArray) (n : Int) (w : World) :
    Calls Try.prog 50 #[.agg #[.string s, .int .i64 n], .agg #[.string s, .int .i64 n]] w fun e w' => e = .returned (.bool true) ∧ Below w.heap.size w w' := by
  go_enter Try.func50, Try.ntmps50
  go_wp2
  go_ret
  exact ⟨rfl, ((Below.refl _ _).alloc (Nat.le_refl _) _).alloc (by simp) _⟩

theorem eqVarS_same (v v' : Value) (l : List Va) (w : World) {lo hi lo' hi' : Nat} (h : VarsAt lo hi w v l) (h' : VarsAt lo' hi' w v' l) :
    Calls Try.prog 29 #[v, v'] w fun e w' => e = .returned (.bool true) ∧ Below w.heap.size w w' := by
  obtain ⟨a, cap, rfl, hm, hc⟩ := h
  obtain ⟨a', cap', rfl, _, hc'⟩ := h'
  unfold maxLen at hm
  go_enter Try.func29, Try.ntmps29
  go_wp2
  go_loopw [5] (fun i wr => ∃ k : Nat, k ≤ l.length ∧ i = .int .i64 k ∧ Below w.heap.size w wr) (fun i _ => l.length - (intOf i).toNat)
  case atStart => exact ⟨0, Nat.zero_le _, rfl, Below.refl _ _⟩
  case round =>
    obtain ⟨k, hk, rfl, hb⟩ := hrel
    by_cases hlt : k < l.length
    · obtain ⟨b, off, rfl, _, _, hcc⟩ := hc (by omega)
      obtain ⟨b', off', rfl, _, _, hcc'⟩ := hc' (by omega)
      obtain ⟨c0, c1⟩ := hcc k hlt
      obtain ⟨d0, d1⟩ := hcc' k hlt
      replace c0 := cell_stays hb c0
      replace c1 := cell_stays hb c1
      replace d0 := cell_stays hb d0
      replace d1 := cell_stays hb d1
      have i0 : (0 : Int) ≤ (k : Int) := by omega
      have i1 : (k : Int) < (l.length : Int) := by omega
      clear hcc hc hcc' hc'
      go_wp2_with fail
      go_region_held3 (fun x => Below w.heap.size w x ∧ x.cell? ⟨b, off + k * 2, none⟩ = some (.string (vaAt l k).1) ∧ x.cell? ⟨b, off + k * 2 + 1, none⟩ = some (.int .i64 (vaAt l k).2) ∧ x.cell? ⟨b', off' + k * 2, none⟩ = some (.string (vaAt l k).1) ∧ x.cell? ⟨b', off' + k * 2 + 1, none⟩ = some (.int .i64 (vaAt l k).2))
        (first | exact four_kept (by assumption) hb1 | exact ⟨hb.drew, c0, c1, d0, d1⟩)
        (first | (go_at_call 50; refine (eqVar_same _ _ _).mono ?_; rintro e w1 ⟨rfl, hb1⟩))
      rename_i hH
      go_wp2
      go_roundw
      case rel => exact ⟨k + 1, by omega, by go_num, hH.1⟩
      case measure => simp [intOf]; omega
    · go_wp2
      go_ret
      exact ⟨rfl, hb⟩

section
variable {H : Type} {enc : TypeId × Value → H} {W : World}
theorem open_vars {fuel : Nat} {cs : List Value} {x : DataW H × List MemPlace} (h : DataW.trod enc Try.prog W 0 (fun _ => true) true fuel 26 cs = some x) :
    ∃ a n cap l, cs = [.slice a n cap] ∧ n = l.length ∧ VarsAt 0 W.heap.size W (.slice a n cap) l ∧ WfVa l := by
  have hce : Try.prog.cellsOf 71 = 2 := by kernel_rfl
  have hcs : Try.prog.cellsOf 9 = 1 := by kernel_rfl
  have hci : Try.prog.cellsOf 3 = 1 := by kernel_rfl
  rcases open_slice Try.underlying26 h with ⟨rfl, _⟩ | ⟨a, len, cap, m, n, D, Pl, rfl, _, hl, hm, hmm, _, hx⟩
  · exact ⟨none, 0, 0, [], rfl, rfl, ⟨none, 0, rfl, Nat.zero_le _, fun h => absurd h (Nat.lt_irrefl _)⟩, fun i hi => absurd hi (Nat.not_lt_zero _)⟩
  · obtain rfl : m = cap := by simpa using hmm
    have inh : Inhabited Va := ⟨va0⟩
    obtain ⟨f, hf⟩ := choose_lt (α := Va) (n := len) (p := fun i q => W.cell? (a.add (i * 2)) = some (.string q.1) ∧ W.cell? (a.add (i * 2 + 1)) = some (.int .i64 q.2) ∧ q.1.size ≤ maxLen ∧ wf q.2) (fun i hi => by
      obtain ⟨cs', h1, h2⟩ := hx i (by omega)
      rw [hce] at h1
      obtain ⟨_, hlen, hcell⟩ := World.cells?_some h1
      obtain ⟨y0, y1, n, _, _, h0, h1⟩ := trod_struct2 Try.underlying71 h2
      match cs', hlen with
      | [v0, v1], _ =>
        simp only [hcs, hci] at h0 h1
        obtain ⟨k0, ek, _, wk⟩ := DataW.trod_string Try.underlying9 h0
        obtain ⟨n1, e1', _, w1⟩ := DataW.trod_int Try.underlying3 h1
        simp at ek e1'
        have e0 := hcell 0 (by omega)
        have e1 := hcell 1 (by omega)
        rw [add_add] at e0 e1
        refine ⟨⟨k0, n1⟩, ?_, ?_, wk, w1⟩
        · simpa [ek] using e0
        · simpa [e1'] using e1)
    refine ⟨some a, len, m, (List.range len).map f, rfl, by simp, ⟨some a, m, by simp, by simp; omega, fun hp => ?_⟩, fun i hi => by
      have hi' : i < len := by simpa using hi
      have e : vaAt ((List.range len).map f) i = f i := by simp [vaAt, hi']
      obtain ⟨_, _, g, g'⟩ := hf i hi'
      rw [e]; exact ⟨g, g'⟩⟩
    have hlen : 0 < len := by simpa using hp
    have ha := spot_plain (by simpa using (hf 0 (by omega)).1)
    refine ⟨a.block, a.off, by rw [← ha], Nat.zero_le _, cell_lt (hf 0 (by omega)).1 |> fun h => by simpa [Addr.add] using h, fun i hi => ?_⟩
    have hi' : i < len := by simpa using hi
    obtain ⟨g0, g1, _⟩ := hf i hi'
    have e : vaAt ((List.range len).map f) i = f i := by simp [vaAt, hi']
    rw [add_plain g0] at g0
    rw [add_plain g1] at g1
    rw [e]
    exact ⟨g0, by simpa [Nat.add_assoc] using g1⟩

theorem open_varsArg {rc : Reach} {b0 : Nat} {v0 : Value} {d : DataW H} {p : List MemPlace} (hv : Value.okWide Try.prog W rc b0 26 v0) (h : DataW.Trod enc Try.prog W 0 (fun _ => true) true 26 v0 d p) :
    ∃ a n cap l, v0 = .slice a n cap ∧ n = l.length ∧ VarsAt 0 W.heap.size W (.slice a n cap) l ∧ WfVa l := by
  obtain ⟨fuel, hf⟩ := h
  obtain ⟨a, n, cap, l, e, hn, hR, hW⟩ := open_vars hf
  refine ⟨a, n, cap, l, ?_, hn, hR, hW⟩
  obtain ⟨a', n', c', e'⟩ := okWide_slice Try.underlying26 hv
  subst e'
  simpa [Value.cells] using e
end

theorem ownKV : ownKnob Try.prog.godebug = none := by kernel_rfl
theorem laidOutV : laidOutB Try.prog = true := by kernel_rfl
end Go.Proofs.Ytjikmpdgednlaaa
