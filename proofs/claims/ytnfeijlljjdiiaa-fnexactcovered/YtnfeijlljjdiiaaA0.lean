/- Accesses: their plain data, in memory, their copies, sizes, the holding against each other, the reading of an argument. -/
import Derived.Test.YtnfeijlljjdiiaaTI
namespace Go.Proofs.Ytnfeijlljjdiiaa
open Go.ChangeShapes Go.WideShapes Go.ChangeAt Go.RowKit
set_option linter.unusedVariables false
set_option maxRecDepth 100000
attribute [local go_sem ↓] Go.wp_at_zero Go.wp_at_succ

structure Ac where
  n : Int
  w : Bool
  t : Int
  c : Bool
  r : Int
  s : Bool
  rows : List Int

theorem szAccess_any (x : Ac) (v : Value) (w : World) {lo hi : Nat} (h : IntsAt lo hi w v x.rows) (left : Int) (h0 : 0 ≤ left) (h1 : left ≤ 1048576) :
    Calls Try.prog 5 #[.agg #[.int .i64 x.n, .bool x.w, .int .i64 x.t, .bool x.c, .int .i64 x.r, .bool x.s, v], .int .i64 left] w fun e w' => ∃ q, e = .returned (.int .i64 q) ∧ q ≤ left ∧ (0 ≤ q → x.rows.length ≤ 1048576) ∧ Below w.heap.size w w' := by
  obtain ⟨a, cap, hv⟩ : ∃ a cap, v = .slice a x.rows.length cap := by obtain ⟨a, cap, h1, _⟩ := h; exact ⟨a, cap, h1⟩
  subst hv
  have hbx : Below w.heap.size w (w.alloc (Obj.cells #[.int .i64 x.n, .bool x.w, .int .i64 x.t, .bool x.c, .int .i64 x.r, .bool x.s, Value.slice a x.rows.length cap] 24)) := (Below.refl _ _).alloc (Nat.le_refl _) _
  go_enter Try.func5, Try.ntmps5
  go_wp2_with fail
  refine (szIntS_any _ x.rows _ (h.stays hbx) _ h0 h1).mono ?_
  rintro e w2 ⟨q, rfl, hq, hl, rfl⟩
  by_cases hlt : q < 0
  · go_wp2
    go_ret
    exact ⟨_, rfl, by omega, by omega, hbx⟩
  · go_wp2
    go_ret
    exact ⟨_, rfl, by omega, by omega, hbx⟩

theorem toAccess_any (x : Ac) (v : Value) (w : World) {lo hi : Nat} (h : IntsAt lo hi w v x.rows) (hn : x.rows.length ≤ 1048576) :
    Calls Try.prog 7 #[.agg #[.int .i64 x.n, .bool x.w, .int .i64 x.t, .bool x.c, .int .i64 x.r, .bool x.s, v]] w fun e w' => ∃ a c, e = .returned (.agg #[.int .i64 x.n, .bool x.w, .int .i64 x.t, .bool x.c, .int .i64 x.r, .bool x.s, .slice a x.rows.length c]) ∧ IntsAt w.heap.size w'.heap.size w' (.slice a x.rows.length c) x.rows ∧ Below w.heap.size w w' := by
  obtain ⟨va, vc, hv⟩ : ∃ a cap, v = .slice a x.rows.length cap := by obtain ⟨a, cap, h1, _⟩ := h; exact ⟨a, cap, h1⟩
  subst hv
  go_enter Try.func7, Try.ntmps7
  go_wp2_with fail
  refine Calls.mono (toIntS_any _ x.rows _ (h.stays ?hbx) hn) ?_
  case hbx => go_grown
  rintro e w2 ⟨qa, qc, rfl, hv2, hb2⟩
  obtain ⟨hc2, hf2⟩ := bcell hb2
  have hz2 : w.heap.size + 1 + 1 < w2.heap.size := by have := hb2.size; simp at this; omega
  have b2 : Below w.heap.size w w2 := Below.trans (by go_grown) (hb2.mono (by simp; omega))
  have hlow : w.heap.size + 3 ≤ w2.heap.size := by omega
  replace hv2 : IntsAt (w.heap.size + 3) w2.heap.size w2 (.slice qa x.rows.length qc) x.rows := hv2.wide (by simp) (Nat.le_refl _)
  go_wp2
  refine bodyPost_ret (v := .agg #[.int .i64 x.n, .bool x.w, .int .i64 x.t, .bool x.c, .int .i64 x.r, .bool x.s, .slice qa x.rows.length qc]) (by simp [results, Try.results7, go_sem, hc2]) rfl ⟨_, _, rfl, ?_, ?_⟩
  · refine (hv2.keep fun b hb _ _ => ?_).wide (by omega) (by simp only [size_setCell]; omega)
    repeat rw [Below.heap_setCell _ _ _ _ (by simp; omega)]
  · go_grown

theorem eqAccess_same (x : Ac) (v v' : Value) (w : World) {lo hi lo' hi' : Nat} (h : IntsAt lo hi w v x.rows) (h' : IntsAt lo' hi' w v' x.rows) :
    Calls Try.prog 9 #[.agg #[.int .i64 x.n, .bool x.w, .int .i64 x.t, .bool x.c, .int .i64 x.r, .bool x.s, v], .agg #[.int .i64 x.n, .bool x.w, .int .i64 x.t, .bool x.c, .int .i64 x.r, .bool x.s, v']] w fun e w' => e = .returned (.bool true) ∧ Below w.heap.size w w' := by
  obtain ⟨va, vc, hv⟩ : ∃ a cap, v = .slice a x.rows.length cap := by obtain ⟨a, cap, h1, _⟩ := h; exact ⟨a, cap, h1⟩
  obtain ⟨va', vc', hv'⟩ : ∃ a cap, v' = .slice a x.rows.length cap := by obtain ⟨a, cap, h1, _⟩ := h'; exact ⟨a, cap, h1⟩
  subst hv hv'
  have hbx : Below w.heap.size w ((w.alloc (Obj.cells #[.int .i64 x.n, .bool x.w, .int .i64 x.t, .bool x.c, .int .i64 x.r, .bool x.s, Value.slice va x.rows.length vc] 27)).alloc (Obj.cells #[.int .i64 x.n, .bool x.w, .int .i64 x.t, .bool x.c, .int .i64 x.r, .bool x.s, Value.slice va' x.rows.length vc'] 27)) := ((Below.refl _ _).alloc (Nat.le_refl _) _).alloc (by simp) _
  go_enter Try.func9, Try.ntmps9
  go_wp2_with fail
  refine (eqIntS_same _ _ x.rows _ (h.stays hbx) (h'.stays hbx)).mono ?_
  rintro e w2 ⟨rfl, hb2⟩
  have hb3 := hbx.trans (hb2.mono hbx.size)
  go_wp2
  go_ret
  exact ⟨rfl, hb3⟩

section
open Go.Deep Go.Joins
variable {H : Type} {enc : TypeId × Value → H} {W : World}
theorem array7 {α : Type} {cs : Array α} (h : cs.size = 7) : ∃ c0 c1 c2 c3 c4 c5 c6, cs = #[c0, c1, c2, c3, c4, c5, c6] := by
  obtain ⟨l⟩ := cs
  match l, h with
  | [c0, c1, c2, c3, c4, c5, c6], _ => exact ⟨c0, c1, c2, c3, c4, c5, c6, rfl⟩
theorem trod_struct7 {P : Program} {w : World} {base : Nat} {spare : Nat → Bool} {held : Bool} {t : TypeId} {f0 f1 f2 f3 f4 f5 f6 : Field} {fuel : Nat} {cs : List Value} {x : DataW H × List MemPlace} (ht : P.underlying t = some (.struct #[f0, f1, f2, f3, f4, f5, f6])) (h : DataW.trod enc P w base spare held fuel t cs = some x) :
    ∃ y0 y1 y2 y3 y4 y5 y6 n, cs.length = P.cellsOf t ∧ DataW.trod enc P w base spare held n f0.type ((cs.drop f0.offset).take (P.cellsOf f0.type)) = some y0 ∧
      DataW.trod enc P w base spare held n f1.type ((cs.drop f1.offset).take (P.cellsOf f1.type)) = some y1 ∧ DataW.trod enc P w base spare held n f2.type ((cs.drop f2.offset).take (P.cellsOf f2.type)) = some y2 ∧
      DataW.trod enc P w base spare held n f3.type ((cs.drop f3.offset).take (P.cellsOf f3.type)) = some y3 ∧ DataW.trod enc P w base spare held n f4.type ((cs.drop f4.offset).take (P.cellsOf f4.type)) = some y4 ∧
      DataW.trod enc P w base spare held n f5.type ((cs.drop f5.offset).take (P.cellsOf f5.type)) = some y5 ∧ DataW.trod enc P w base spare held n f6.type ((cs.drop f6.offset).take (P.cellsOf f6.type)) = some y6 := by
  obtain ⟨xs, n, _, rfl, hl, hlen, hf⟩ := DataW.trod_struct ht h
  match xs, hlen with
  | [y0, y1, y2, y3, y4, y5, y6], _ => exact ⟨y0, y1, y2, y3, y4, y5, y6, n, hl, by simpa using hf 0 f0 rfl, by simpa using hf 1 f1 rfl, by simpa using hf 2 f2 rfl, by simpa using hf 3 f3 rfl, by simpa using hf 4 f4 rfl, by simpa using hf 5 f5 rfl, by simpa using hf 6 f6 rfl⟩
theorem open_access {r : Reach} {b0 : Nat} {v0 : Value} {d : DataW H} {p : List MemPlace} (hv : Value.okWide Try.prog W r b0 24 v0) (h : DataW.Trod enc Try.prog W 0 (fun _ => true) true 24 v0 d p) :
    ∃ (x : Ac) (v : Value), v0 = .agg #[.int .i64 x.n, .bool x.w, .int .i64 x.t, .bool x.c, .int .i64 x.r, .bool x.s, v] ∧ IntsAt 0 W.heap.size W v x.rows ∧ (∀ j, j < x.rows.length → wf (iAt x.rows j)) ∧ wf x.n ∧ wf x.t ∧ wf x.r := by
  obtain ⟨cs, rfl, hsz⟩ := okWide_struct Try.underlying24 hv
  have hc : Try.prog.cellsOf 24 = 7 := by kernel_rfl
  have hci : Try.prog.cellsOf 3 = 1 := by kernel_rfl
  have hcb : Try.prog.cellsOf 4 = 1 := by kernel_rfl
  have hcs : Try.prog.cellsOf 22 = 1 := by kernel_rfl
  rw [hc] at hsz
  obtain ⟨fuel, hf⟩ := h
  obtain ⟨y0, y1, y2, y3, y4, y5, y6, n, _, h0, h1, h2, h3, h4, h5, h6⟩ := trod_struct7 Try.underlying24 hf
  obtain ⟨c0, c1, c2, c3, c4, c5, c6, rfl⟩ := array7 hsz
  simp only [hci, hcb, hcs] at h0 h1 h2 h3 h4 h5 h6
  obtain ⟨n0, e0, _, w0⟩ := DataW.trod_int Try.underlying3 h0
  obtain ⟨n1, e1, _⟩ := DataW.trod_bool Try.underlying4 h1
  obtain ⟨n2, e2, _, w2⟩ := DataW.trod_int Try.underlying3 h2
  obtain ⟨n3, e3, _⟩ := DataW.trod_bool Try.underlying4 h3
  obtain ⟨n4, e4, _, w4⟩ := DataW.trod_int Try.underlying3 h4
  obtain ⟨n5, e5, _⟩ := DataW.trod_bool Try.underlying4 h5
  obtain ⟨v, l, e6, hl, hw⟩ := open_ints h6
  simp [Value.cells] at e0 e1 e2 e3 e4 e5 e6
  exact ⟨⟨n0, n1, n2, n3, n4, n5, l⟩, v, by rw [e0, e1, e2, e3, e4, e5, e6], hl, hw, w0, w2, w4⟩
end
end Go.Proofs.Ytnfeijlljjdiiaa
