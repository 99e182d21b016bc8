/- The specification's reader: both modes at once. -/
import Derived.Test.YtkdlgglikhbnkacSExpr2
import Derived.Test.YtkdlgglikhbnkacPStmt2
namespace Go.Proofs.Ytkdlgglikhbnkac
open Go.ChangeShapes Go.WideShapes Go.ChangeAt Go.RowKit
set_option linter.unusedVariables false
set_option maxRecDepth 100000
attribute [local go_sem ↓] Go.wp_at_zero Go.wp_at_succ

theorem PR.then_assoc {α β γ : Type} (r : PR α) (f : α → Nat → List Nd → PR β) (g : β → Nat → List Nd → PR γ) : (r.then f).then g = r.then fun a i ns => (f a i ns).then g := by
  cases r <;> rfl

/-- The blocks of L are the caller's own. -/
def OwnB (rb : Nat) (w0 : World) (L : List Nat) (w : World) (nv : Value) (q : List Qn) : Prop := ∀ g, g ∈ L → w0.heap.size ≤ g ∧ g < w.heap.size ∧ g ≠ rb ∧ nv.ownBlock ≠ some g ∧ ∀ j, j < q.length → (qnAt q j).2.ownBlock ≠ some g
def OwnB' (rb : Nat) (w0 : World) (L : List Nat) (w : World) : Prop := ∀ g, g ∈ L → w0.heap.size ≤ g ∧ g < w.heap.size ∧ g ≠ rb

theorem OwnB.mv {rb : Nat} {w0 : World} {L : List Nat} {w w' : World} {nv nv' : Value} {q q' : List Qn} (h : OwnB rb w0 L w nv q) (m : Mv rb w nv q w' nv' q') : OwnB rb w0 L w' nv' q' := fun g hg => by
  obtain ⟨a0, a1, a2, a3, a4⟩ := h g hg
  refine ⟨a0, Nat.lt_of_lt_of_le a1 m.size, a2, fun e => ?_, fun j hj e => ?_⟩
  · rcases m.ownv g e with e | e
    · exact a3 e
    · omega
  · rcases m.kids j hj g e with ⟨x, hx, e⟩ | e
    · exact a4 x hx e
    · omega
theorem OwnB.same {rb : Nat} {w0 : World} {L : List Nat} {w w' : World} {nv nv' : Value} {q q' : List Qn} (h : OwnB rb w0 L w nv q) (m : Mv rb w nv q w' nv' q') {g : Nat} (hg : g ∈ L) : w'.heap[g]? = w.heap[g]? := by
  obtain ⟨a0, a1, a2, a3, a4⟩ := h g hg
  exact m.block g a1 a2 a3
theorem OwnB.sameG {rb : Nat} {w0 : World} {L : List Nat} {w w' : World} {nv : Value} {q : List Qn} (h : OwnB rb w0 L w nv q) (m : Gz rb w nv w') {g : Nat} (hg : g ∈ L) : w'.heap[g]? = w.heap[g]? := by
  obtain ⟨a0, a1, a2, a3, a4⟩ := h g hg
  exact m.block g a1 a2 a3
theorem OwnB.toBad {rb : Nat} {w0 : World} {L : List Nat} {w w' : World} {nv : Value} {q : List Qn} (h : OwnB rb w0 L w nv q) (hz : w.heap.size ≤ w'.heap.size) : OwnB' rb w0 L w' := fun g hg => by
  obtain ⟨a0, a1, a2, a3, a4⟩ := h g hg
  exact ⟨a0, by omega, a2⟩
theorem OwnB'.fz {rb : Nat} {w0 : World} {L : List Nat} {w w' : World} (h : OwnB' rb w0 L w) (m : Fz rb w w') : OwnB' rb w0 L w' := fun g hg => by
  obtain ⟨a0, a1, a2⟩ := h g hg
  exact ⟨a0, Nat.lt_of_lt_of_le a1 m.size, a2⟩
theorem OwnB'.same {rb : Nat} {w0 : World} {L : List Nat} {w w' : World} (h : OwnB' rb w0 L w) (m : Fz rb w w') {g : Nat} (hg : g ∈ L) : w'.heap[g]? = w.heap[g]? := by
  obtain ⟨a0, a1, a2⟩ := h g hg
  exact m.block g a1 a2

/-- The reader's state, by what reading has come to. -/
def SAt (base rb : Nat) (T : List Tk) (tv pv : Value) (w0 : World) (nv0 : Value) (q0 : List Qn) (i0 ad sl d : Nat) (L : List Nat) (w : World) {α : Type} (r : PR α) : Prop := match r with
  | .ok _ i ns => ∃ nv q, Sd base rb T tv pv w i d nv q ∧ qnds q = ns ∧ Mv rb w0 nv0 q0 w nv q ∧ i0 + ad ≤ i ∧ q.length + i0 + sl ≤ q0.length + i ∧ OwnB rb w0 L w nv q
  | .bad i => Bd base rb T tv pv w i ∧ Gz rb w0 nv0 w ∧ OwnB' rb w0 L w

/-- What is answered is that of what reading has come to. -/
def Val {α β : Type} (r : PR α) (v : β) (f : α → β) : Prop := ∀ a i ns, r = .ok a i ns → v = f a
theorem Val.then {α β γ : Type} {r : PR α} {v : β} {f : α → β} (h : Val r v f) (F : α → Nat → List Nd → PR γ) (g : γ → β) (hF : ∀ a i ns b i' ns', F a i ns = .ok b i' ns' → g b = f a) : Val (r.then F) v g := by
  intro b i' ns' e
  rcases r with ⟨a, i, ns⟩ | i
  · rw [h a i ns rfl, hF a i ns b i' ns' e]
  · cases e
theorem Val.skip {α β : Type} {r : PR α} {v : β} {f : α → β} (h : Val r v f) (T : List Tk) (x : ByteArray) : Val (r.then fun a i ns => (skipF T x i ns).then fun _ i ns => .ok a i ns) v f :=
  h.then _ _ fun a i ns b i' ns' e => by
    rcases hs : skipF T x i ns with ⟨u, j, ms⟩ | j
    · rw [hs] at e; injection e with e1; rw [e1]
    · rw [hs] at e; cases e
theorem Val.pair {α β γ : Type} {r : PR α} {v : β} {f : α → β} (h : Val r v f) (F : Nat → List Nd → PR γ) : Val (r.then fun a i ns => (F i ns).then fun b i ns => .ok (a, b) i ns) v (fun p => f p.1) :=
  h.then _ _ fun a i ns b i' ns' e => by
    rcases hs : F i ns with ⟨u, j, ms⟩ | j
    · rw [hs] at e; injection e with e1; rw [← e1]
    · rw [hs] at e; cases e

theorem SAt.stays {base rb : Nat} {T : List Tk} {tv pv : Value} {w0 : World} {nv0 : Value} {q0 : List Qn} {i0 ad sl d : Nat} {L : List Nat} {w w' : World} {α : Type} {r : PR α} (h : SAt base rb T tv pv w0 nv0 q0 i0 ad sl d L w r) (hb : Below w.heap.size w w') : SAt base rb T tv pv w0 nv0 q0 i0 ad sl d L w' r := by
  rcases r with ⟨a, i, ns⟩ | i
  · obtain ⟨nv, q, hS, hq, hM, h1, h2, hO⟩ := h
    have m := Mv.of_below (rb := rb) (nv := nv) (q := q) hb
    exact ⟨nv, q, hS.stays hb, hq, hM.trans m, h1, h2, hO.mv m⟩
  · obtain ⟨hB, hG, hO⟩ := h
    have f := Fz.of_below (rb := rb) hb
    exact ⟨hB.stays hb, hG.fz f, hO.fz f⟩
theorem SAt.lt {base rb : Nat} {T : List Tk} {tv pv : Value} {w0 : World} {nv0 : Value} {q0 : List Qn} {i0 ad sl d : Nat} {L : List Nat} {w : World} {α : Type} {r : PR α} (h : SAt base rb T tv pv w0 nv0 q0 i0 ad sl d L w r) : rb < w.heap.size := by
  rcases r with ⟨a, i, ns⟩ | i
  · obtain ⟨nv, q, hS, _⟩ := h; exact hS.row.lt
  · exact h.1.lt
theorem SAt.size {base rb : Nat} {T : List Tk} {tv pv : Value} {w0 : World} {nv0 : Value} {q0 : List Qn} {i0 ad sl d : Nat} {L : List Nat} {w : World} {α : Type} {r : PR α} (h : SAt base rb T tv pv w0 nv0 q0 i0 ad sl d L w r) : w0.heap.size ≤ w.heap.size := by
  rcases r with ⟨a, i, ns⟩ | i
  · obtain ⟨nv, q, _, _, hM, _⟩ := h; exact hM.size
  · exact h.2.1.size
/-- A block of the caller's own, new. -/
theorem SAt.fresh {base rb : Nat} {T : List Tk} {tv pv : Value} {w0 : World} {nv0 : Value} {q0 : List Qn} {i0 ad sl d : Nat} {L : List Nat} {w : World} {α : Type} {r : PR α} (h : SAt base rb T tv pv w0 nv0 q0 i0 ad sl d L w r) (o : Obj) : SAt base rb T tv pv w0 nv0 q0 i0 ad sl d (w.heap.size :: L) (w.alloc o) r := by
  have hz := h.size
  have hl := h.lt
  have hb : Below w.heap.size w (w.alloc o) := (Below.refl _ _).alloc (Nat.le_refl _) _
  have h' := h.stays hb
  have hn : w.heap.size < (w.alloc o).heap.size := by simp
  rcases r with ⟨a, i, ns⟩ | i
  · obtain ⟨nv, q, hS, hq, hM, h1, h2, hO⟩ := h
    refine ⟨nv, q, hS.stays hb, hq, hM.trans (Mv.of_below hb), h1, h2, fun g hg => ?_⟩
    rcases List.mem_cons.1 hg with rfl | hg
    · refine ⟨hz, hn, by omega, fun e => ?_, fun j hj e => ?_⟩
      · have := (own_lt hS.own.row e).2; omega
      · have := (own_lt (hS.own.lists j hj) e).2; omega
    · exact hO.mv (Mv.of_below hb) g hg
  · obtain ⟨hB, hG, hO⟩ := h'
    refine ⟨hB, hG, fun g hg => ?_⟩
    rcases List.mem_cons.1 hg with rfl | hg
    · exact ⟨hz, hn, by omega⟩
    · exact hO g hg

theorem want_s {base rb : Nat} {T : List Tk} {tv pv : Value} {w0 : World} {nv0 : Value} {q0 : List Qn} {i0 ad sl d : Nat} {L : List Nat} {w : World} {α : Type} {r : PR α} (hT : Goods T) (h : SAt base rb T tv pv w0 nv0 q0 i0 ad sl d L w r) {x : ByteArray} (hx : askB x = true) :
    Calls Try.prog 40 #[.pointer (some ⟨rb, 0, none⟩), .string x] w fun e w' => e = .returned (.tuple #[]) ∧ SAt base rb T tv pv w0 nv0 q0 i0 (ad + 1) (sl + 1) d L w' (r.then fun a i ns => (skipF T x i ns).then fun _ i ns => .ok a i ns) ∧ ∀ g, g ∈ L → w'.heap[g]? = w.heap[g]? := by
  rcases r with ⟨a, i, ns⟩ | i
  · obtain ⟨nv, q, hS, rfl, hM, h1, h2, hO⟩ := h
    refine (swant_any hS x).mono ?_
    rw [isB_text hT i hx]
    rintro e w' ⟨rfl, m, ⟨hb, h4⟩ | ⟨hb, h4⟩⟩
    · refine ⟨rfl, ?_, fun g hg => hO.same m hg⟩
      rw [PR.then_ok, skipF, if_pos (of_decide_eq_true hb), PR.then_ok]
      exact ⟨nv, q, h4, rfl, hM.trans m, by omega, by omega, hO.mv m⟩
    · refine ⟨rfl, ?_, fun g hg => hO.same m hg⟩
      rw [PR.then_ok, skipF, if_neg (of_decide_eq_false hb), PR.then_bad]
      exact ⟨h4, (hM.trans m).gz, hO.toBad m.size⟩
  · obtain ⟨hB, hG, hO⟩ := h
    refine (swant_bad hB x).mono ?_
    rintro e w' ⟨rfl, h4, f4⟩
    exact ⟨rfl, ⟨h4, hG.fz f4, hO.fz f4⟩, fun g hg => hO.same f4 hg⟩

theorem kind_s {base rb : Nat} {T : List Tk} {tv pv : Value} {w0 : World} {nv0 : Value} {q0 : List Qn} {i0 ad sl d : Nat} {L : List Nat} {w : World} {α : Type} {r : PR α} (h : SAt base rb T tv pv w0 nv0 q0 i0 ad sl d L w r) (k : Int) (hk : k ≠ 0) :
    Calls Try.prog 41 #[.pointer (some ⟨rb, 0, none⟩), .int .i64 k] w fun e w' => ∃ t : Tk, e = .returned (.agg #[.int .i64 t.k, .string t.s, .int .i64 t.n, .int .i64 t.p]) ∧ SAt base rb T tv pv w0 nv0 q0 i0 (ad + 1) (sl + 1) d L w' (r.then fun a i ns => (takeF T k i ns).then fun t i ns => .ok (a, t) i ns) ∧ Val (r.then fun a i ns => (takeF T k i ns).then fun t i ns => .ok (a, t) i ns) t (fun p => p.2) ∧ ∀ g, g ∈ L → w'.heap[g]? = w.heap[g]? := by
  rcases r with ⟨a, i, ns⟩ | i
  · obtain ⟨nv, q, hS, rfl, hM, h1, h2, hO⟩ := h
    refine (skind_any hS k hk).mono ?_
    rintro e w' ⟨m, ⟨hb, rfl, h4⟩ | ⟨hb, rfl, h4⟩⟩
    · rw [PR.then_ok, takeF, if_pos hb, PR.then_ok]
      refine ⟨tkAt T i, rfl, ⟨nv, q, h4, rfl, hM.trans m, by omega, by omega, hO.mv m⟩, fun a' i' ns' e => ?_, fun g hg => hO.same m hg⟩
      injection e with e1
      rw [← e1]
    · rw [PR.then_ok, takeF, if_neg hb, PR.then_bad]
      exact ⟨⟨0, ⟨#[]⟩, 0, 0⟩, rfl, ⟨h4, (hM.trans m).gz, hO.toBad m.size⟩, fun a' i' ns' e => (by cases e), fun g hg => hO.same m hg⟩
  · obtain ⟨hB, hG, hO⟩ := h
    refine (skind_bad hB k).mono ?_
    rintro e w' ⟨rfl, h4, f4⟩
    exact ⟨⟨0, ⟨#[]⟩, 0, 0⟩, rfl, ⟨h4, hG.fz f4, hO.fz f4⟩, fun a' i' ns' e => (by cases e), fun g hg => hO.same f4 hg⟩

theorem part_s {base rb : Nat} {T : List Tk} {tv pv : Value} {w0 : World} {nv0 : Value} {q0 : List Qn} {i0 ad sl d : Nat} {L : List Nat} {w : World} {α : Type} {r : PR α} (h : SAt base rb T tv pv w0 nv0 q0 i0 ad sl d L w r) (F : Nat) (G : Nat → List Nd → PR Nat)
    (hgood : ∀ (w : World) (i : Nat) (nv : Value) (q : List Qn), Sd base rb T tv pv w i d nv q → i0 + ad ≤ i → Calls Try.prog F #[.pointer (some ⟨rb, 0, none⟩)] w (SpRet base rb T tv pv w nv q d i (G i (qnds q))))
    (hbad : ∀ (w : World) (i : Nat), Bd base rb T tv pv w i → Calls Try.prog F #[.pointer (some ⟨rb, 0, none⟩)] w fun e w' => e = .returned (.int .i64 0) ∧ Bd base rb T tv pv w' i ∧ Fz rb w w') :
    Calls Try.prog F #[.pointer (some ⟨rb, 0, none⟩)] w fun e w' => ∃ z : Int, e = .returned (.int .i64 z) ∧ SAt base rb T tv pv w0 nv0 q0 i0 ad sl d L w' (r.then fun a i ns => (G i ns).then fun k i ns => .ok (a, k) i ns) ∧ Val (r.then fun a i ns => (G i ns).then fun k i ns => .ok (a, k) i ns) z (fun p => (p.2 : Int)) ∧ ∀ g, g ∈ L → w'.heap[g]? = w.heap[g]? := by
  rcases r with ⟨a, i, ns⟩ | i
  · obtain ⟨nv, q, hS, rfl, hM, h1, h2, hO⟩ := h
    refine (hgood w i nv q hS h1).mono ?_
    rcases hs : G i (qnds q) with ⟨k, i', ns'⟩ | i'
    · rintro e w' ⟨rfl, nv', q', hS', rfl, hM', h3, h4⟩
      rw [PR.then_ok, hs, PR.then_ok]
      refine ⟨(k : Int), rfl, ⟨nv', q', hS', rfl, hM.trans hM', by omega, by omega, hO.mv hM'⟩, fun a' i' ns' e => ?_, fun g hg => hO.same hM' hg⟩
      injection e with e1
      rw [← e1]
    · rintro e w' ⟨z, rfl, hB, hG⟩
      rw [PR.then_ok, hs, PR.then_bad]
      exact ⟨z, rfl, ⟨hB, hM.thenGz hG, hO.toBad hG.size⟩, fun a' i' ns' e => (by cases e), fun g hg => hO.sameG hG hg⟩
  · obtain ⟨hB, hG, hO⟩ := h
    refine (hbad w i hB).mono ?_
    rintro e w' ⟨rfl, h4, f4⟩
    exact ⟨0, rfl, ⟨h4, hG.fz f4, hO.fz f4⟩, fun a' i' ns' e => (by cases e), fun g hg => hO.same f4 hg⟩

/-- A word is taken, or not: then all is as it was. -/
theorem take_s {base rb : Nat} {T : List Tk} {tv pv : Value} {w0 : World} {nv0 : Value} {q0 : List Qn} {i0 ad sl d : Nat} {L : List Nat} {w : World} {α : Type} {r : PR α} (hT : Goods T) (h : SAt base rb T tv pv w0 nv0 q0 i0 ad sl d L w r) {x : ByteArray} (hx : askB x = true) :
    Calls Try.prog 42 #[.pointer (some ⟨rb, 0, none⟩), .string x] w fun e w' => (∀ g, g ∈ L → w'.heap[g]? = w.heap[g]?) ∧ ((e = .returned (.bool true) ∧ ∃ a i ns, r = .ok a i ns ∧ wS T i = x ∧ SAt base rb T tv pv w0 nv0 q0 i0 (ad + 1) (sl + 1) d L w' (PR.ok a (i + 1) ns)) ∨ (e = .returned (.bool false) ∧ SAt base rb T tv pv w0 nv0 q0 i0 ad sl d L w' r ∧ ∀ a i ns, r = .ok a i ns → ¬ wS T i = x)) := by
  rcases r with ⟨a, i, ns⟩ | i
  · obtain ⟨nv, q, hS, rfl, hM, h1, h2, hO⟩ := h
    refine (stake_any hS x).mono ?_
    rw [isB_text hT i hx]
    rintro e w' ⟨rfl, h4, m⟩
    refine ⟨fun g hg => hO.same m hg, ?_⟩
    by_cases hb : wS T i = x
    · rw [decide_eq_true hb, if_pos rfl] at h4
      exact .inl ⟨by rw [decide_eq_true hb], a, i, _, rfl, hb, nv, q, h4, rfl, hM.trans m, by omega, by omega, hO.mv m⟩
    · rw [decide_eq_false hb, if_neg (by decide)] at h4
      refine .inr ⟨by rw [decide_eq_false hb], ⟨nv, q, h4, rfl, hM.trans m, by omega, by omega, hO.mv m⟩, fun a' i' ns' e => ?_⟩
      injection e with e1 e2
      rw [← e2]; exact hb
  · obtain ⟨hB, hG, hO⟩ := h
    refine (stake_bad hB x).mono ?_
    rintro e w' ⟨rfl, h4, f4⟩
    exact ⟨fun g hg => hO.same f4 hg, .inr ⟨rfl, ⟨h4, hG.fz f4, hO.fz f4⟩, fun a' i' ns' e => (by cases e)⟩⟩

theorem node_s {base rb : Nat} {T : List Tk} {tv pv : Value} {w0 : World} {nv0 : Value} {q0 : List Qn} {i0 ad sl d : Nat} {L : List Nat} {w : World} {α : Type} {r : PR α} (h : SAt base rb T tv pv w0 nv0 q0 i0 ad (sl + 1) d L w r) (c : Nd) (f : α → Nd) (hv : Val r c f) (hk : c.kids.length ≤ 6000) (hq0 : q0.length ≤ i0) :
    Calls Try.prog 62 #[.pointer (some ⟨rb, 0, none⟩), .agg #[.int .i64 c.k, .string c.s, .int .i64 c.n, .slice (some ⟨w.heap.size, 0, none⟩) c.kids.length c.kids.length]] (w.alloc (Obj.cells (icells c.kids).toArray 3)) fun e w' => ∃ z : Int, e = .returned (.int .i64 z) ∧ SAt base rb T tv pv w0 nv0 q0 i0 ad sl d L w' (r.then fun a i ns => putF (f a) i ns) ∧ Val (r.then fun a i ns => putF (f a) i ns) z (fun k => (k : Int)) := by
  rcases r with ⟨a, i, ns⟩ | i
  · obtain ⟨nv, q, hS, rfl, hM, h1, h2, hO⟩ := h
    have hc := hv a i _ rfl
    refine (snode_fresh hS c (by omega) hk).mono ?_
    rintro e w' ⟨rfl, nv', q', hR, hq, hM', hl⟩
    rw [PR.then_ok, putF]
    refine ⟨_, rfl, ⟨nv', q', hR, by rw [hq, hc], hM.trans hM', by omega, by omega, hO.mv hM'⟩, fun a' i' ns' e => ?_⟩
    injection e with e1
    rw [← e1]
  · obtain ⟨hB, hG, hO⟩ := h
    have hb : Below w.heap.size w (w.alloc (Obj.cells (icells c.kids).toArray 3)) := (Below.refl _ _).alloc (Nat.le_refl _) _
    refine (snode_bad (hB.stays hb) _ _ _ _ _ _).mono ?_
    rintro e w' ⟨rfl, h4, f4⟩
    have f := (Fz.of_below (rb := rb) hb).trans f4
    exact ⟨0, rfl, ⟨h4, hG.fz f, hO.fz f⟩, fun a' i' ns' e => (by cases e)⟩

theorem nodeN_s {base rb : Nat} {T : List Tk} {tv pv : Value} {w0 : World} {nv0 : Value} {q0 : List Qn} {i0 ad sl d : Nat} {L : List Nat} {w : World} {α : Type} {r : PR α} (h : SAt base rb T tv pv w0 nv0 q0 i0 ad (sl + 1) d L w r) (c : Nd) (f : α → Nd) (hv : Val r c f) (hc0 : c.kids = []) (hq0 : q0.length ≤ i0) :
    Calls Try.prog 62 #[.pointer (some ⟨rb, 0, none⟩), .agg #[.int .i64 c.k, .string c.s, .int .i64 c.n, .slice none 0 0]] w fun e w' => ∃ z : Int, e = .returned (.int .i64 z) ∧ SAt base rb T tv pv w0 nv0 q0 i0 ad sl d L w' (r.then fun a i ns => putF (f a) i ns) ∧ Val (r.then fun a i ns => putF (f a) i ns) z (fun k => (k : Int)) := by
  rcases r with ⟨a, i, ns⟩ | i
  · obtain ⟨nv, q, hS, rfl, hM, h1, h2, hO⟩ := h
    have hc := hv a i _ rfl
    refine (snode_none hS c hc0 (by omega)).mono ?_
    rintro e w' ⟨rfl, nv', q', hR, hq, hM', hl⟩
    rw [PR.then_ok, putF]
    refine ⟨_, rfl, ⟨nv', q', hR, by rw [hq, hc], hM.trans hM', by omega, by omega, hO.mv hM'⟩, fun a' i' ns' e => ?_⟩
    injection e with e1
    rw [← e1]
  · obtain ⟨hB, hG, hO⟩ := h
    refine (snode_bad hB _ _ _ _ _ _).mono ?_
    rintro e w' ⟨rfl, h4, f4⟩
    exact ⟨0, rfl, ⟨h4, hG.fz f4, hO.fz f4⟩, fun a' i' ns' e => (by cases e)⟩

/-- A node whose kids' row is the caller's own. -/
theorem nodeL_s {base rb : Nat} {T : List Tk} {tv pv : Value} {w0 : World} {nv0 : Value} {q0 : List Qn} {i0 ad sl d : Nat} {L : List Nat} {w : World} {α : Type} {r : PR α} (h : SAt base rb T tv pv w0 nv0 q0 i0 ad (sl + 1) d L w r) (c : Nd) (f : α → Nd) (hv : Val r c f) {a : Option Addr} {n cap : Nat} (hn : n = c.kids.length) (hown : w.ownsRow base 3 1 (.slice a n cap) n (icells c.kids)) (hL : ∀ g, (Value.slice a n cap).ownBlock = some g → g ∈ L) (hq0 : q0.length ≤ i0) :
    Calls Try.prog 62 #[.pointer (some ⟨rb, 0, none⟩), .agg #[.int .i64 c.k, .string c.s, .int .i64 c.n, .slice a n cap]] w fun e w' => ∃ z : Int, e = .returned (.int .i64 z) ∧ SAt base rb T tv pv w0 nv0 q0 i0 ad sl d [] w' (r.then fun a i ns => putF (f a) i ns) ∧ Val (r.then fun a i ns => putF (f a) i ns) z (fun k => (k : Int)) := by
  rcases r with ⟨a', i, ns⟩ | i
  · obtain ⟨nv, q, hS, rfl, hM, h1, h2, hO⟩ := h
    have hc := hv a' i _ rfl
    have hLoc : Loc w0.heap.size base rb w nv q (.slice a n cap) c.kids := ⟨by rw [← hn]; exact hown, fun g hg => (hO g (hL g hg)).1, fun g hg => (hO g (hL g hg)).2.2⟩
    refine (snode_loc hS c hn hLoc (by omega)).mono ?_
    rintro e w' ⟨rfl, nv', q', hR, hq, hM', hl⟩
    rw [PR.then_ok, putF]
    refine ⟨_, rfl, ⟨nv', q', hR, by rw [hq, hc], hM' _ _ _ hM (Nat.le_refl _), by omega, by omega, fun g hg => by cases hg⟩, fun a' i' ns' e => ?_⟩
    injection e with e1
    rw [← e1]
  · obtain ⟨hB, hG, hO⟩ := h
    refine (snode_bad hB _ _ _ _ _ _).mono ?_
    rintro e w' ⟨rfl, h4, f4⟩
    exact ⟨0, rfl, ⟨h4, hG.fz f4, fun g hg => by cases hg⟩, fun a' i' ns' e => (by cases e)⟩

/-- One level up. -/
theorem SAt.up {base rb : Nat} {T : List Tk} {tv pv : Value} {w0 : World} {nv0 : Value} {q0 : List Qn} {i0 ad sl d : Nat} {L : List Nat} {w : World} {α : Type} {r : PR α} (h : SAt base rb T tv pv w0 nv0 q0 i0 ad sl (d + 1) L w r) :
    ∃ x : Int, w.cell? ⟨rb, 2, none⟩ = some (.int .i64 x) ∧ w.frozen? ⟨rb, 2, none⟩ = false ∧ SAt base rb T tv pv w0 nv0 q0 i0 ad sl d L (w.setCell ⟨rb, 2, none⟩ (.int .i64 (wrap64 (x - 1)))) r ∧ ∀ g, g ∈ L → (w.setCell ⟨rb, 2, none⟩ (.int .i64 (wrap64 (x - 1)))).heap[g]? = w.heap[g]? := by
  rcases r with ⟨a, i, ns⟩ | i
  · obtain ⟨nv, q, hS, rfl, hM, h1, h2, hO⟩ := h
    have hd := hS.hd
    have c2 : w.cell? ⟨rb, 2, none⟩ = some (.int .i64 ((d : Int) + 1)) := hS.row.cell (by omega)
    have hw : wrap64 ((d : Int) + 1 - 1) = (d : Int) := by rw [← IntWalk.i64_left, IntKind.wrap_i64]; omega
    obtain ⟨h4, m4⟩ := hS.up
    refine ⟨_, c2, hS.row.frozen 2, ?_, ?_⟩
    · rw [hw]
      exact ⟨nv, q, h4, rfl, hM.trans m4, h1, h2, hO.mv m4⟩
    · rw [hw]
      exact fun g hg => hO.same m4 hg
  · obtain ⟨hB, hG, hO⟩ := h
    obtain ⟨d3, nv3, pv3, hr3⟩ := hB.row
    have f : Fz rb w (w.setCell ⟨rb, 2, none⟩ (.int .i64 (wrap64 (d3 - 1)))) := Fz.set 2 _
    exact ⟨d3, hr3.cell (by omega), hr3.frozen 2, ⟨hB.up _, hG.fz f, hO.fz f⟩, fun g hg => hO.same f hg⟩

theorem done_s {base rb : Nat} {T : List Tk} {tv pv : Value} {w0 : World} {nv0 : Value} {q0 : List Qn} {i0 ad sl d : Nat} {L : List Nat} {w : World} {r : PR Nat} (h : SAt base rb T tv pv w0 nv0 q0 i0 ad sl d L w r) {z : Int} (hv : Val r z (fun k => (k : Int))) (b : Nat) (h1 : b ≤ ad) (h2 : b ≤ sl) : SpRet base rb T tv pv w0 nv0 q0 d (i0 + b) r (.returned (.int .i64 z)) w := by
  rcases r with ⟨a, i, ns⟩ | i
  · obtain ⟨nv, q, hS, hq, hM, h3, h4, hO⟩ := h
    exact ⟨by rw [hv a i ns rfl], nv, q, hS, hq, hM, by omega, by omega⟩
  · obtain ⟨hB, hG, hO⟩ := h
    exact ⟨z, rfl, hB, hG⟩

theorem SAt.start {base rb : Nat} {T : List Tk} {tv pv : Value} {w : World} {i d : Nat} {nv : Value} {q : List Qn} (h : Sd base rb T tv pv w i d nv q) : SAt base rb T tv pv w nv q i 0 0 d [] w (PR.ok () i (qnds q)) :=
  ⟨nv, q, h, rfl, Mv.refl, by omega, by omega, fun g hg => by cases hg⟩

end Go.Proofs.Ytkdlgglikhbnkac
