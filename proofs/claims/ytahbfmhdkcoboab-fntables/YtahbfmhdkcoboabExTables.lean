/- For every code, the law of tables returns true. -/
import Derived.Test.YtahbfmhdkcoboabLex6
import Derived.Test.YtahbfmhdkcoboabLDraw
import Derived.ChangeOld
import Derived.Lib.SmallJoins
namespace Go.Proofs.Ytahbfmhdkcoboab
open Go.ChangeShapes Go.WideShapes Go.ChangeAt Go.RowKit Go.Sort Go.Deep Go.Joins
set_option linter.unusedVariables false
set_option maxRecDepth 100000
attribute [local go_sem ↓] Go.wp_at_zero Go.wp_at_succ

theorem drawTableText_any (a : Option Addr) (n cap : Nat) (w : World) (hc : BytesIn w a n) :
    Calls Try.prog 10 #[.slice a n cap] w fun e w' => (∃ x : Int, e = .returned (.int .i64 x) ∧ -1 ≤ x ∧ x ≤ 6) ∧ Below w.heap.size w w' := by
  go_enter Try.func10, Try.ntmps10
  go_wp2_with fail
  refine (l1New_any a n cap _ hc).mono ?_
  rintro e w1 ⟨rfl, hC, hb⟩
  go_wp2_with fail
  refine (l1Below_any _ 8 _ hC).mono ?_
  rintro e w2 ⟨⟨x, rfl, x0, x1⟩, hC2, hg⟩
  have x2 := x1 (by omega)
  clear x1
  go_wp2
  go_ret
  exact ⟨⟨_, rfl, by omega, by omega⟩, hb.grown hg hb.size (fun k hk => by cases hk; exact Nat.le_refl _)⟩

theorem tText_len {x : Int} (h0 : 0 ≤ x) (h5 : x < 5) : (tText x).size = 1 := by
  have : x = 0 ∨ x = 1 ∨ x = 2 ∨ x = 3 ∨ x = 4 := by omega
  rcases this with rfl | rfl | rfl | rfl | rfl <;> rfl

set_option maxHeartbeats 1000000 in
theorem fnTables_any (a : Option Addr) (n cap : Nat) (w : World) (hc : BytesIn w a n) :
    Calls Try.prog 4 #[.slice a n cap] w fun e w' => e = .returned (.bool true) ∧ Below w.heap.size w w' := by
  go_enter Try.func4, Try.ntmps4
  go_wp2_with fail
  refine (drawTableText_any a n cap _ hc).mono ?_
  rintro e w1 ⟨⟨x, rfl, x0, x1⟩, hb⟩
  go_wp2_with fail
  refine (implTableText_any _ _).mono ?_
  rintro e w2 ⟨rfl, rfl⟩
  have : x = -1 ∨ x = 0 ∨ x = 1 ∨ x = 2 ∨ x = 3 ∨ x = 4 ∨ x = 5 ∨ x = 6 := by omega
  rcases this with rfl | rfl | rfl | rfl | rfl | rfl | rfl | rfl
  · rw [show tText (-1) = ⟨#[]⟩ from rfl]
    go_wp2_with fail
    refine (words_any _).mono ?_
    rintro e w3 ⟨rfl, hb3⟩
    go_wp2
    go_ret
    exact ⟨rfl, hb.trans (hb3.mono hb.size)⟩
  · rw [show tText 0 = ⟨#[65]⟩ from rfl]
    go_wp2_with fail
    refine (implTableOf_any _ _).mono ?_
    rintro e w3 ⟨rfl, rfl⟩
    rw [show tOf (ByteArray.mk #[65]).toList = 0 from by rw [ByteArray.toList_eq]; decide]
    go_wp2_with fail
    refine (implTableOf_any _ _).mono ?_
    rintro e w4 ⟨rfl, rfl⟩
    rw [show tOf (ByteArray.mk #[65]).toList = 0 from by rw [ByteArray.toList_eq]; decide]
    go_wp2_with fail
    refine (words_any _).mono ?_
    rintro e w5 ⟨rfl, hb3⟩
    go_wp2
    go_ret
    exact ⟨rfl, hb.trans (hb3.mono hb.size)⟩
  · rw [show tText 1 = ⟨#[66]⟩ from rfl]
    go_wp2_with fail
    refine (implTableOf_any _ _).mono ?_
    rintro e w3 ⟨rfl, rfl⟩
    rw [show tOf (ByteArray.mk #[66]).toList = 1 from by rw [ByteArray.toList_eq]; decide]
    go_wp2_with fail
    refine (implTableOf_any _ _).mono ?_
    rintro e w4 ⟨rfl, rfl⟩
    rw [show tOf (ByteArray.mk #[66]).toList = 1 from by rw [ByteArray.toList_eq]; decide]
    go_wp2_with fail
    refine (words_any _).mono ?_
    rintro e w5 ⟨rfl, hb3⟩
    go_wp2
    go_ret
    exact ⟨rfl, hb.trans (hb3.mono hb.size)⟩
  · rw [show tText 2 = ⟨#[67]⟩ from rfl]
    go_wp2_with fail
    refine (implTableOf_any _ _).mono ?_
    rintro e w3 ⟨rfl, rfl⟩
    rw [show tOf (ByteArray.mk #[67]).toList = 2 from by rw [ByteArray.toList_eq]; decide]
    go_wp2_with fail
    refine (implTableOf_any _ _).mono ?_
    rintro e w4 ⟨rfl, rfl⟩
    rw [show tOf (ByteArray.mk #[67]).toList = 2 from by rw [ByteArray.toList_eq]; decide]
    go_wp2_with fail
    refine (words_any _).mono ?_
    rintro e w5 ⟨rfl, hb3⟩
    go_wp2
    go_ret
    exact ⟨rfl, hb.trans (hb3.mono hb.size)⟩
  · rw [show tText 3 = ⟨#[68]⟩ from rfl]
    go_wp2_with fail
    refine (implTableOf_any _ _).mono ?_
    rintro e w3 ⟨rfl, rfl⟩
    rw [show tOf (ByteArray.mk #[68]).toList = 3 from by rw [ByteArray.toList_eq]; decide]
    go_wp2_with fail
    refine (implTableOf_any _ _).mono ?_
    rintro e w4 ⟨rfl, rfl⟩
    rw [show tOf (ByteArray.mk #[68]).toList = 3 from by rw [ByteArray.toList_eq]; decide]
    go_wp2_with fail
    refine (words_any _).mono ?_
    rintro e w5 ⟨rfl, hb3⟩
    go_wp2
    go_ret
    exact ⟨rfl, hb.trans (hb3.mono hb.size)⟩
  · rw [show tText 4 = ⟨#[35]⟩ from rfl]
    go_wp2_with fail
    refine (implTableOf_any _ _).mono ?_
    rintro e w3 ⟨rfl, rfl⟩
    rw [show tOf (ByteArray.mk #[35]).toList = -1 from by rw [ByteArray.toList_eq]; decide]
    go_wp2_with fail
    refine (words_any _).mono ?_
    rintro e w5 ⟨rfl, hb3⟩
    go_wp2
    go_ret
    exact ⟨rfl, hb.trans (hb3.mono hb.size)⟩
  · rw [show tText 5 = ⟨#[]⟩ from rfl]
    go_wp2_with fail
    refine (words_any _).mono ?_
    rintro e w3 ⟨rfl, hb3⟩
    go_wp2
    go_ret
    exact ⟨rfl, hb.trans (hb3.mono hb.size)⟩
  · rw [show tText 6 = ⟨#[]⟩ from rfl]
    go_wp2_with fail
    refine (words_any _).mono ?_
    rintro e w3 ⟨rfl, hb3⟩
    go_wp2
    go_ret
    exact ⟨rfl, hb.trans (hb3.mono hb.size)⟩

theorem add_plain {w : World} {a : Addr} {j : Nat} {v : Value} (h : w.cell? (a.add j) = some v) : a.add j = ⟨a.block, a.off + j, none⟩ := by
  have hs := World.cell?_spot h
  unfold Addr.add at hs ⊢
  obtain ⟨b, o, s⟩ := a
  by_cases hj : j = 0
  · simp [hj] at hs ⊢; exact hs
  · simp [hj] at hs ⊢; try exact hs
theorem spot_plain {w : World} {a : Addr} {v : Value} (h : w.cell? (a.add 0) = some v) : a = ⟨a.block, a.off, none⟩ := by
  have := add_plain h
  simpa [Addr.add] using this

theorem open_code {H : Type} {enc : TypeId × Value → H} {W : World} {r : Reach} {b0 : Nat} {v0 : Value} {d : DataW H} {p : List MemPlace} (hv : Value.okWide Try.prog W r b0 22 v0) (h : DataW.Trod enc Try.prog W 0 (fun _ => true) true 22 v0 d p) :
    ∃ a n cap, v0 = .slice a n cap ∧ BytesIn W a n := by
  have hce : Try.prog.cellsOf 5 = 1 := by kernel_rfl
  obtain ⟨a', n', c', rfl⟩ := okWide_slice Try.underlying22 hv
  obtain ⟨fuel, hf⟩ := h
  rcases open_slice Try.underlying22 hf with ⟨e, _⟩ | ⟨a, len, cap, m, n, D, Pl, e, _, hl, hm, hmm, _, hx⟩
  · simp [Value.cells] at e
    obtain ⟨rfl, rfl, rfl⟩ := e
    exact ⟨none, 0, 0, rfl, Nat.zero_le _, fun h => absurd h (Nat.lt_irrefl _)⟩
  · simp [Value.cells] at e
    obtain ⟨rfl, rfl, rfl⟩ := e
    obtain rfl : m = _ := by simpa using hmm
    have key : ∀ j, j < n' → ∃ x : Int, 0 ≤ x ∧ x ≤ 255 ∧ W.cell? (a.add j) = some (.int .u8 x) := fun j hj => by
      obtain ⟨cs', h1, h2⟩ := hx j (by omega)
      rw [hce] at h1
      obtain ⟨_, hlen, hcell⟩ := World.cells?_some h1
      obtain ⟨x, e1, _, w1⟩ := DataW.trod_int Try.underlying5 h2
      subst e1
      have e0 := hcell 0 (by omega)
      rw [add_add] at e0
      refine ⟨x, ?_, ?_, by simpa using e0⟩
      · simp [Lit.wf, IntKind.min, IntKind.max, IntKind.signed, IntKind.bits] at w1; omega
      · simp [Lit.wf, IntKind.min, IntKind.max, IntKind.signed, IntKind.bits] at w1; omega
    refine ⟨some a, n', _, rfl, by unfold maxLen at *; omega, fun hp => ?_⟩
    obtain ⟨x, _, _, e0⟩ := key 0 hp
    have ha := spot_plain e0
    refine ⟨a.block, a.off, by rw [← ha], by have := cell_lt e0; simpa [Addr.add] using this, fun j hj => ?_⟩
    obtain ⟨x, x0, x1, ex⟩ := key j hj
    rw [add_plain ex] at ex
    exact ⟨x, x0, x1, ex⟩

theorem own : ownKnob Try.prog.godebug = none := by kernel_rfl
theorem laidOut : laidOutB Try.prog = true := by kernel_rfl

set_option maxRecDepth 100000 in
theorem liftedTables (os : Os) (started : os.Started) (H : Type) (enc : TypeId × Value → H) :
    ReturnsInHanded {} Try.checked os 4 .any (Rows.fnTablesSpec.pre6 enc Try.prog Try.f4 Rows.fnTablesRow.domain false) (Rows.fnTablesSpec.post enc Try.prog Try.f4 false true false false) := by
  refine returnsInHanded_of_change (C := Try.checked) own started (by kernel_rfl) Try.func4
    (ChangeSpec.witness6 (enc := enc) (C := Try.checked) false ⟨#[], #[.slice none 0 0], []⟩ 8 (by kernel_rfl) (by kernel_rfl) (by kernel_rfl) (by kernel_rfl)) ?_
  intro W base args ds gs before hval0 hW hcnd _
  have hval : ∀ (j : Nat) t v, Try.f4.params[j]? = some t → args[j]? = some v → Value.okWide Try.prog W .any base t v := hval0
  have hW' := hW
  obtain ⟨p, q, hA0, hV, rfl, hfz, hnd⟩ := hW
  have hA : DataW.TrodAll enc Try.prog W 0 (fun _ => true) true Try.f4.params.toList args.toList ds p := hA0
  rw [Try.params4] at hA hval
  obtain ⟨v0, vs0, d0, ds0, p0, q0, hargs, rfl, rfl, h0, r0⟩ := trodAll_cons hA
  obtain ⟨rfl, rfl, rfl⟩ := trodAll_nil r0
  obtain rfl : args = #[v0] := by cases args; simp_all
  obtain ⟨rfl, rfl⟩ := trodVars_none hV
  have k0 := h0
  have lt0 : ∀ x ∈ p0, x.block < W.heap.size := by obtain ⟨m, hm⟩ := k0; exact DataW.trod_lt m _ _ _ hm
  obtain ⟨a, n, cap, rfl, hl⟩ := open_code (hval 0 22 v0 rfl rfl) h0
  clear hA0 hval0
  refine (fnTables_any a n cap W hl).mono fun e W' ⟨he, bel⟩ => ?_
  subst he
  exact ⟨_, rfl, _, _, _, [], _, [], hW', trodAll_mk1 (shut_bool Try.underlying4 _), trodAll_cons_mk (Below.trod laidOut (by kernel_rfl) (of_decide_eq_true (by kernel_rfl)) k0 bel lt0) trodAll_mk0, rfl, bel.frame _, fun h => by cases h⟩

theorem fnTables_holds : Rows.FnTablesSaid :=
  OpenClaim.holds_of_wide 4 Try.f4 rfl rfl rfl rfl rfl rfl rfl ⟨rfl, rfl, rfl, rfl, rfl⟩ rfl rfl rfl rfl rfl (by kernel_rfl) Try.func4 (by kernel_rfl)
    (of_decide_eq_true (by kernel_rfl)) (by unfold Func.isWrapper; first | (rw [if_pos (by decide +kernel)]; kernel_rfl) | (rw [if_neg (by decide +kernel)]; exact ⟨rfl, rfl⟩))
    (fun os started H enc _ => liftedTables os started H enc)

#print axioms fnTables_holds
end Go.Proofs.Ytahbfmhdkcoboab
