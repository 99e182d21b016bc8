/- impl.Parse. -/
import Derived.Test.YtkdlgglikhbnkacPParse3
import Derived.Test.YtkdlgglikhbnkacLexL
import Derived.Defers
import Derived.Recover
import Derived.Stop.Asserts
namespace Go.Proofs.Ytkdlgglikhbnkac
open Go.ChangeShapes Go.WideShapes Go.ChangeAt Go.RowKit
set_option linter.unusedVariables false
set_option maxRecDepth 100000
attribute [local go_sem ↓] Go.wp_at_zero Go.wp_at_succ

theorem assert_nil (w : World) : (Instr.typeAssert Value.nilIface 20 48 true).run Try.prog w = .ok (.tuple #[.int .i64 0, .bool false]) w := by kernel_rfl
theorem assert_place (n : Int) (w : World) : (Instr.typeAssert (.iface 48 (.int .i64 n)) 20 48 true).run Try.prog w = .ok (.tuple #[.int .i64 n, .bool true]) w := by kernel_rfl

set_option maxHeartbeats 2000000 in
theorem catch_idle (p1 p2 : Addr) (w : World) :
    CallsD Try.prog 15 #[.pointer (some p1), .pointer (some p2)] .returning w fun e u' w' => e = .returned (.tuple #[]) ∧ u' = .returning ∧ w' = w := by
  refine callsD_of_wpS Try.func15 rfl fun c₀ cs hu => ?_
  apply wpS_seq
  apply wpS_region
  simp [wpOpsS, go_sem, recoverD, hu, Try.ntmps15, Exit.thenS, assert_nil]
  apply wpS_seq
  apply wpS_region
  simp [wpOpsS, go_sem, Exit.thenS]
  refine wpS_cond (t := false) (by simp [Act.eval, Array.replicate]) ?_
  simp only [Bool.false_eq_true, if_false]
  refine wpS_of_wp (wp_skip ?_)
  cases c₀
  simp_all [bodyPostS, results, Try.results15]

set_option maxHeartbeats 2000000 in
theorem catch_place (b1 b2 : Nat) (n : Int) (older : List PanicEntry) (w : World) (x0 x1 y0 : Value) (h0 : w.cell? ⟨b1, 0, none⟩ = some x0) (h1 : w.cell? ⟨b1, 1, none⟩ = some x1) (h2 : w.cell? ⟨b2, 0, none⟩ = some y0) (hf : ∀ j, w.frozen? ⟨b1, j, none⟩ = false) (hg : w.frozen? ⟨b2, 0, none⟩ = false) (hne : b1 ≠ b2) (hne' : b2 ≠ b1) :
    CallsD Try.prog 15 #[.pointer (some ⟨b1, 0, none⟩), .pointer (some ⟨b2, 0, none⟩)] (.panicking ({ v := .iface 48 (.int .i64 n), recovered := false } :: older)) w fun e u' w' =>
      e = .returned (.tuple #[]) ∧ u' = .panicking ({ v := .iface 48 (.int .i64 n), recovered := true } :: older) ∧ w' = ((w.setCell ⟨b1, 0, none⟩ (.slice none 0 0)).setCell ⟨b1, 1, none⟩ (.slice none 0 0)).setCell ⟨b2, 0, none⟩ (.int .i64 n) := by
  refine callsD_of_wpS Try.func15 rfl fun c₀ cs hu => ?_
  apply wpS_seq
  apply wpS_region
  simp [wpOpsS, go_sem, recoverD, hu, Try.ntmps15, Exit.thenS, assert_place]
  apply wpS_seq
  apply wpS_region
  simp [wpOpsS, go_sem, Exit.thenS]
  refine wpS_cond (t := true) (by simp [Act.eval, Array.replicate]) ?_
  simp only [if_true]
  apply wpS_region
  have hb : ∀ y : World, (Instr.build 27 #[]).run Try.prog y = .ok (.agg #[.slice none 0 0, .slice none 0 0]) y := fun y => by kernel_rfl
  simp [wpOpsS, go_sem, h0, h1, h2, hf, hg, bodyPostS, results, Try.results15]

/-- What Parse answers. -/
def ParseA (w : World) (k : Int) (ns : List Nd) (ps : List Pr) (e : Ending) (w' : World) : Prop :=
  ∃ na nc q pa pc p, e = .returned (.tuple #[.agg #[.slice na q.length nc, .slice pa p.length pc], .int .i64 k]) ∧ OwnN w.heap.size w' (.slice na q.length nc) q ∧ qnds q = ns ∧ OwnP w.heap.size w' (.slice pa p.length pc) p ∧ qprs p = ps ∧
    (∀ g, pown (.slice pa p.length pc) p g → (Value.slice na q.length nc).ownBlock ≠ some g ∧ ∀ j, j < q.length → (qnAt q j).2.ownBlock ≠ some g) ∧ Below w.heap.size w w'

theorem parseA_none {w w' : World} {k : Int} (h : Below w.heap.size w w') : ParseA w k [] [] (.returned (.tuple #[.agg #[.slice none 0 0, .slice none 0 0], .int .i64 k])) w' :=
  ⟨none, 0, [], none, 0, [], rfl, OwnN.nil _ _, rfl, OwnP.nil _ _, rfl, fun g hg => (pown_nil hg).elim, h⟩

theorem ownN_low {base base' : Nat} {w : World} {nv : Value} {q : List Qn} (h : OwnN base w nv q) (hb : base' ≤ base) : OwnN base' w nv q := by
  have low : ∀ {E : TypeId} {sz : Nat} {v : Value} {n : Nat} {xs : List Value}, w.ownsRow base E sz v n xs → w.ownsRow base' E sz v n xs := fun {E sz v n xs} h => by
    obtain ⟨h1, h2⟩ := h
    refine ⟨h1, ?_⟩
    rcases h2 with h2 | ⟨g, cap, cur, e1, h4, h5⟩
    · exact .inl h2
    · exact .inr ⟨g, cap, cur, e1, by omega, h5⟩
  exact ⟨low h.row, fun i hi => low (h.lists i hi), h.apart⟩
theorem ownP_low {base base' : Nat} {w : World} {nv : Value} {q : List Qp} (h : OwnP base w nv q) (hb : base' ≤ base) : OwnP base' w nv q := by
  have low : ∀ {E : TypeId} {sz : Nat} {v : Value} {n : Nat} {xs : List Value}, w.ownsRow base E sz v n xs → w.ownsRow base' E sz v n xs := fun {E sz v n xs} h => by
    obtain ⟨h1, h2⟩ := h
    refine ⟨h1, ?_⟩
    rcases h2 with h2 | ⟨g, cap, cur, e1, h4, h5⟩
    · exact .inl h2
    · exact .inr ⟨g, cap, cur, e1, by omega, h5⟩
  exact ⟨low h.row, fun i hi => low (h.lists i hi), h.apart⟩

set_option maxHeartbeats 4000000 in
theorem implParse_any (s : ByteArray) (w : World) (hs : s.size ≤ 9223372036854775807) :
    Calls Try.prog 5 #[.string s] w (ParseA w (parseF s).2 (parseF s).1.1 (parseF s).1.2) := by
  have hmf : ∀ (fn : Fn) (first cap : Array Value) (w : World), (Instr.makeFunc fn first cap).run Try.prog w = .ok (.func fn first cap) w := fun _ _ _ _ => rfl
  have hlen := lexF_length s
  have bA : Below w.heap.size w ((w.alloc (Obj.cells #[.slice none 0 0, .slice none 0 0] 27)).alloc (Obj.cells #[.int .i64 0] 3)) := ((Below.refl _ _).alloc (Nat.le_refl _) _).alloc (by simp) _
  have r0 : ((w.alloc (Obj.cells #[.slice none 0 0, .slice none 0 0] 27)).alloc (Obj.cells #[.int .i64 0] 3)).cell? ⟨w.heap.size, 0, none⟩ = some (.slice none 0 0) := by simp [go_sem]
  have r1 : ((w.alloc (Obj.cells #[.slice none 0 0, .slice none 0 0] 27)).alloc (Obj.cells #[.int .i64 0] 3)).cell? ⟨w.heap.size, 1, none⟩ = some (.slice none 0 0) := by simp [go_sem]
  have r2 : ((w.alloc (Obj.cells #[.slice none 0 0, .slice none 0 0] 27)).alloc (Obj.cells #[.int .i64 0] 3)).cell? ⟨w.heap.size + 1, 0, none⟩ = some (.int .i64 0) := by simp [go_sem]
  have rf : ∀ j, ((w.alloc (Obj.cells #[.slice none 0 0, .slice none 0 0] 27)).alloc (Obj.cells #[.int .i64 0] 3)).frozen? ⟨w.heap.size, j, none⟩ = false := fun j => by simp [go_sem]
  have rg : ((w.alloc (Obj.cells #[.slice none 0 0, .slice none 0 0] 27)).alloc (Obj.cells #[.int .i64 0] 3)).frozen? ⟨w.heap.size + 1, 0, none⟩ = false := by simp [go_sem]
  have hzA : w.heap.size + 2 ≤ ((w.alloc (Obj.cells #[.slice none 0 0, .slice none 0 0] 27)).alloc (Obj.cells #[.int .i64 0] 3)).heap.size := by simp
  go_enter_defers Try.func5, Try.ntmps5
  go_wp2_with fail
  generalize (w.alloc (Obj.cells #[.slice none 0 0, .slice none 0 0] 27)).alloc (Obj.cells #[.int .i64 0] 3) = wA at *
  refine (implLex_any s _).mono ?_
  rintro e w2 ⟨v2, rfl, hO2, hb2⟩
  have q0 := cell_stays hb2 r0
  have q1 := cell_stays hb2 r1
  have q2 := cell_stays hb2 r2
  have z2 := hb2.size
  have qf : ∀ j, w2.frozen? ⟨w.heap.size, j, none⟩ = false := fun j => by rw [hb2.frozen (by show w.heap.size < _; omega)]; exact rf j
  have qg : w2.frozen? ⟨w.heap.size + 1, 0, none⟩ = false := by rw [hb2.frozen (by show w.heap.size + 1 < _; omega)]; exact rg
  have b2 : Below w.heap.size w w2 := bA.trans (hb2.mono bA.size)
  have b3 : Below w.heap.size w (w2.setCell ⟨w.heap.size + 1, 0, none⟩ (.int .i64 (lexF s).2)) := b2.setCell (by simp) _
  clear r0 r1 r2 rf rg bA
  by_cases hk : (lexF s).2 = -1
  · obtain ⟨a2, c2', hv2⟩ := own_slice hO2
    have hpf : parseF s = parseT (lexF s).1 s.size := by rw [parseF, if_pos hk]
    change Hid _ at hpf
    rw [hk] at b3
    have c0 : (w2.setCell ⟨w.heap.size + 1, 0, none⟩ (.int .i64 (-1))).cell? ⟨w.heap.size, 0, none⟩ = some (.slice none 0 0) := by simp [go_sem, q0]
    have c1 : (w2.setCell ⟨w.heap.size + 1, 0, none⟩ (.int .i64 (-1))).cell? ⟨w.heap.size, 1, none⟩ = some (.slice none 0 0) := by simp [go_sem, q1]
    have c2 : (w2.setCell ⟨w.heap.size + 1, 0, none⟩ (.int .i64 (-1))).cell? ⟨w.heap.size + 1, 0, none⟩ = some (.int .i64 (-1)) := by simp [go_sem, q2]
    have cf : ∀ j, (w2.setCell ⟨w.heap.size + 1, 0, none⟩ (.int .i64 (-1))).frozen? ⟨w.heap.size, j, none⟩ = false := fun j => by simp [go_sem, qf]
    have cg : (w2.setCell ⟨w.heap.size + 1, 0, none⟩ (.int .i64 (-1))).frozen? ⟨w.heap.size + 1, 0, none⟩ = false := by simp [go_sem, qg]
    have hO3 : (w2.setCell ⟨w.heap.size + 1, 0, none⟩ (.int .i64 (-1))).ownsRow wA.heap.size 59 4 v2 (lexF s).1.length (tcells (lexF s).1) := own_keep hO2 fun g hg _ => Below.heap_setCell _ _ _ _ (by have := (own_lt hO2 hg).1; show g ≠ w.heap.size + 1; omega)
    have z3 : (w2.setCell ⟨w.heap.size + 1, 0, none⟩ (.int .i64 (-1))).heap.size = w2.heap.size := by simp [World.setCell]
    rw [hk]
    have hk' : Hid ((lexF s).2 = -1) := hk
    clear hk
    subst hv2
    generalize hT : (lexF s).1 = T at *
    have hTE : Hid ((lexF s).1 = T) := hT
    clear hT
    have hRd : Rd w2.heap.size w2.heap.size T (.slice a2 T.length c2') s.size ((w2.setCell ⟨w.heap.size + 1, 0, none⟩ (.int .i64 (-1))).alloc (Obj.cells #[.slice a2 T.length c2', .int .i64 (s.size : Int), .int .i64 0, .int .i64 0, .slice none 0 0] 52)) 0 0 (.slice none 0 0) [] := by
      refine ⟨⟨_, by rw [← z3]; exact heap_alloc_new _ _, by simp, fun j hj => ?_⟩, ⟨a2, c2', rfl, hlen, fun hp => ?_⟩, OwnN.nil _ _, Nat.le_refl _, by simp [Value.ownBlock], fun k hk => absurd hk (Nat.not_lt_zero _), Nat.zero_le _, by omega, Nat.le_refl _⟩
      · match j, hj with
        | 0, _ => rfl
        | 1, _ => rfl
        | 2, _ => rfl
        | 3, _ => rfl
        | 4, _ => rfl
      · obtain ⟨g, cap, hv, h1, h2, h3⟩ := toks_of_owns hO3 hp
        cases hv
        rw [z3] at h2
        refine ⟨g, rfl, h2, by simp [z3]; omega, fun i hi => ?_⟩
        obtain ⟨t0, t1, t2, t3⟩ := h3 i hi
        have bb : Below (w2.setCell ⟨w.heap.size + 1, 0, none⟩ (.int .i64 (-1))).heap.size (w2.setCell ⟨w.heap.size + 1, 0, none⟩ (.int .i64 (-1))) ((w2.setCell ⟨w.heap.size + 1, 0, none⟩ (.int .i64 (-1))).alloc (Obj.cells #[.slice (some ⟨g, 0, none⟩) T.length c2', .int .i64 (s.size : Int), .int .i64 0, .int .i64 0, .slice none 0 0] 52)) := (Below.refl _ _).alloc (Nat.le_refl _) _
        exact ⟨cell_stays bb t0, cell_stays bb t1, cell_stays bb t2, cell_stays bb t3⟩
    have bb : Below (w2.setCell ⟨w.heap.size + 1, 0, none⟩ (.int .i64 (-1))).heap.size (w2.setCell ⟨w.heap.size + 1, 0, none⟩ (.int .i64 (-1))) ((w2.setCell ⟨w.heap.size + 1, 0, none⟩ (.int .i64 (-1))).alloc (Obj.cells #[.slice a2 T.length c2', .int .i64 (s.size : Int), .int .i64 0, .int .i64 0, .slice none 0 0] 52)) := (Below.refl _ _).alloc (Nat.le_refl _) _
    have d0 := cell_stays bb c0
    have d1 := cell_stays bb c1
    have d2 := cell_stays bb c2
    have df : ∀ j, ((w2.setCell ⟨w.heap.size + 1, 0, none⟩ (.int .i64 (-1))).alloc (Obj.cells #[.slice a2 T.length c2', .int .i64 (s.size : Int), .int .i64 0, .int .i64 0, .slice none 0 0] 52)).frozen? ⟨w.heap.size, j, none⟩ = false := fun j => by rw [bb.frozen (by rw [z3]; show w.heap.size < _; omega)]; exact cf j
    have dg : ((w2.setCell ⟨w.heap.size + 1, 0, none⟩ (.int .i64 (-1))).alloc (Obj.cells #[.slice a2 T.length c2', .int .i64 (s.size : Int), .int .i64 0, .int .i64 0, .slice none 0 0] 52)).frozen? ⟨w.heap.size + 1, 0, none⟩ = false := by rw [bb.frozen (by rw [z3]; show w.heap.size + 1 < _; omega)]; exact cg
    have b5 := b3.trans (bb.mono (by rw [z3]; omega))
    go_wp2_with fail
    clear c0 c1 c2 cf cg bb
    generalize (w2.setCell ⟨w.heap.size + 1, 0, none⟩ (.int .i64 (-1))).alloc (Obj.cells #[.slice a2 T.length c2', .int .i64 (s.size : Int), .int .i64 0, .int .i64 0, .slice none 0 0] 52) = w5 at *
    have hcel : ∀ x : World, Below w2.heap.size w5 x → x.cell? ⟨w.heap.size, 0, none⟩ = some (.slice none 0 0) ∧ x.cell? ⟨w.heap.size, 1, none⟩ = some (.slice none 0 0) ∧ x.cell? ⟨w.heap.size + 1, 0, none⟩ = some (.int .i64 (-1)) ∧ (∀ j, x.frozen? ⟨w.heap.size, j, none⟩ = false) ∧ x.frozen? ⟨w.heap.size + 1, 0, none⟩ = false := fun x hx => by
      refine ⟨?_, ?_, ?_, fun j => ?_, ?_⟩
      · rw [hx.cell (by show w.heap.size < _; omega)]; exact d0
      · rw [hx.cell (by show w.heap.size < _; omega)]; exact d1
      · rw [hx.cell (by show w.heap.size + 1 < _; omega)]; exact d2
      · rw [hx.frozen (by show w.heap.size < _; omega)]; exact df j
      · rw [hx.frozen (by show w.heap.size + 1 < _; omega)]; exact dg
    refine (whole_any (n := T.length) hRd (by omega)).mono ?_
    have hne : w.heap.size ≠ w.heap.size + 1 := by omega
    have hne' : w.heap.size + 1 ≠ w.heap.size := by omega
    change ∀ e w', WRet w2.heap.size T s.size w5 (wholeL T T.length [] 0 []) e w' → _
    rcases hw : wholeL T T.length [] 0 [] with ⟨ps, i, ns⟩ | i
    · by_cases hbig : 800 < ns.length
      · have hpf2 : parseF s = (([], []), placeT T s.size i) := by rw [hpf.out, parseT, hw]; simp [hbig]
        change Hid _ at hpf2
        rintro e w6 hW
        simp only [WRet, if_pos hbig] at hW
        obtain ⟨rfl, hle, hB⟩ := hW
        obtain ⟨k0, k1, k2, kf, kg⟩ := hcel _ hB
        have b6 := b5.trans (hB.mono (by omega))
        go_wp2
        refine leaves_cons (f := 15) (args := #[.pointer (some ⟨w.heap.size, 0, none⟩), .pointer (some ⟨w.heap.size + 1, 0, none⟩)]) (by simp) (by simp [go_sem]) ?_
        refine (catch_place w.heap.size (w.heap.size + 1) _ [] _ _ _ _ k0 k1 k2 kf kg hne hne').mono ?_
        rintro e u' w'' ⟨rfl, rfl, rfl⟩
        rw [hpf2.out]
        simp [Leaves, settle, results, Try.results5, go_sem, k0, k1, k2]
        exact parseA_none (((b6.setCell (Nat.le_refl _) _).setCell (Nat.le_refl _) _).setCell (by simp) _)
      · have hpf2 : parseF s = ((ns, ps), -1) := by rw [hpf.out, parseT, hw]; simp [hbig]
        change Hid _ at hpf2
        rintro e w6 hW
        simp only [WRet, if_neg hbig] at hW
        obtain ⟨na, nc, q, pa, pc, p, rfl, hN, rfl, hPp, rfl, hdis, hB⟩ := hW
        obtain ⟨k0, k1, k2, kf, kg⟩ := hcel _ hB
        have b6 := b5.trans (hB.mono (by omega))
        go_wp2
        refine leaves_cons (f := 15) (args := #[.pointer (some ⟨w.heap.size, 0, none⟩), .pointer (some ⟨w.heap.size + 1, 0, none⟩)]) (by simp) (by simp [go_sem]) ?_
        refine (catch_idle _ _ _).mono ?_
        rintro e u' w'' ⟨rfl, rfl, rfl⟩
        rw [hpf2.out]
        simp [Leaves, settle, results, Try.results5, go_sem, k0, k1, k2]
        have hkk : ∀ g, w2.heap.size ≤ g → (((w6.setCell ⟨w.heap.size, 0, none⟩ (.slice na q.length nc)).setCell ⟨w.heap.size, 1, none⟩ (.slice pa p.length pc)).setCell ⟨w.heap.size + 1, 0, none⟩ (.int .i64 (-1))).heap[g]? = w6.heap[g]? := fun g hg => by
          rw [Below.heap_setCell _ _ _ _ (by show g ≠ w.heap.size + 1; omega), Below.heap_setCell _ _ _ _ (by show g ≠ w.heap.size; omega), Below.heap_setCell _ _ _ _ (by show g ≠ w.heap.size; omega)]
        refine ⟨na, nc, q, pa, pc, p, rfl, ownN_low (hN.keep fun g hg _ => hkk g ?_) (by omega), rfl, ownP_low (hPp.keep fun g hg _ => hkk g (hPp.lt hg).1) (by omega), rfl, hdis, ((b6.setCell (Nat.le_refl _) _).setCell (Nat.le_refl _) _).setCell (by simp) _⟩
        rcases hg with hg | ⟨k, hk, hg⟩
        · exact (own_lt hN.row hg).1
        · exact (own_lt (hN.lists k hk) hg).1
    · have hpf2 : parseF s = (([], []), placeT T s.size i) := by rw [hpf.out, parseT, hw]
      change Hid _ at hpf2
      rintro e w6 ⟨rfl, hle, hB⟩
      obtain ⟨k0, k1, k2, kf, kg⟩ := hcel _ hB
      have b6 := b5.trans (hB.mono (by omega))
      go_wp2
      refine leaves_cons (f := 15) (args := #[.pointer (some ⟨w.heap.size, 0, none⟩), .pointer (some ⟨w.heap.size + 1, 0, none⟩)]) (by simp) (by simp [go_sem]) ?_
      refine (catch_place w.heap.size (w.heap.size + 1) _ [] _ _ _ _ k0 k1 k2 kf kg hne hne').mono ?_
      rintro e u' w'' ⟨rfl, rfl, rfl⟩
      rw [hpf2.out]
      simp [Leaves, settle, results, Try.results5, go_sem, k0, k1, k2]
      exact parseA_none (((b6.setCell (Nat.le_refl _) _).setCell (Nat.le_refl _) _).setCell (by simp) _)
  · have hpf : parseF s = (([], []), (lexF s).2) := by rw [parseF, if_neg hk]
    change Hid _ at hpf
    have c0 : (w2.setCell ⟨w.heap.size + 1, 0, none⟩ (.int .i64 (lexF s).2)).cell? ⟨w.heap.size, 0, none⟩ = some (.slice none 0 0) := by simp [go_sem, q0]
    have c1 : (w2.setCell ⟨w.heap.size + 1, 0, none⟩ (.int .i64 (lexF s).2)).cell? ⟨w.heap.size, 1, none⟩ = some (.slice none 0 0) := by simp [go_sem, q1]
    have c2 : (w2.setCell ⟨w.heap.size + 1, 0, none⟩ (.int .i64 (lexF s).2)).cell? ⟨w.heap.size + 1, 0, none⟩ = some (.int .i64 (lexF s).2) := by simp [go_sem, q2]
    have cf : ∀ j, (w2.setCell ⟨w.heap.size + 1, 0, none⟩ (.int .i64 (lexF s).2)).frozen? ⟨w.heap.size, j, none⟩ = false := fun j => by simp [go_sem, qf]
    have cg : (w2.setCell ⟨w.heap.size + 1, 0, none⟩ (.int .i64 (lexF s).2)).frozen? ⟨w.heap.size + 1, 0, none⟩ = false := by simp [go_sem, qg]
    have hb : ∀ y : World, (Instr.build 27 #[]).run Try.prog y = .ok (.agg #[.slice none 0 0, .slice none 0 0]) y := fun y => by kernel_rfl
    go_wp2_with fail
    generalize w2.setCell ⟨w.heap.size + 1, 0, none⟩ (.int .i64 (lexF s).2) = w3 at *
    have hne : w.heap.size ≠ w.heap.size + 1 := by omega
    go_region
    go_wp2
    rw [hpf.out]
    simp [bodyPostD, Leaves, results, Try.results5, go_sem, c0, c1, c2]
    exact parseA_none (((b3.setCell (Nat.le_refl _) _).setCell (Nat.le_refl _) _).setCell (by simp) _).drew

end Go.Proofs.Ytkdlgglikhbnkac
