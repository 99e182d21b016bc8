/- The specification's reader: expressions, and rows. -/
import Derived.Test.YtkdlgglikhbnkacSComb
namespace Go.Proofs.Ytkdlgglikhbnkac
open Go.ChangeShapes Go.WideShapes Go.ChangeAt Go.RowKit
set_option linter.unusedVariables false
set_option maxRecDepth 100000
attribute [local go_sem ↓] Go.wp_at_zero Go.wp_at_succ

theorem Val.map2 {α β γ δ : Type} {r : PR α} {v : β} {f : α → β} {u : γ} {g : α → γ} (h : Val r v f) (k : Val r u g) (F : β → γ → δ) : Val r (F v u) (fun a => F (f a) (g a)) := fun a i ns e => by rw [h a i ns e, k a i ns e]
theorem Val.map1 {α β δ : Type} {r : PR α} {v : β} {f : α → β} (h : Val r v f) (F : β → δ) : Val r (F v) (fun a => F (f a)) := fun a i ns e => by rw [h a i ns e]
theorem Val.con {α β : Type} {r : PR α} (v : β) : Val r v (fun _ => v) := fun a i ns e => rfl
theorem Val.ok {α β : Type} {r : PR α} {v : β} {f : α → β} (h : Val r v f) {a : α} {i : Nat} {ns : List Nd} (e : r = .ok a i ns) (i' : Nat) (ns' : List Nd) : Val (PR.ok a i' ns') v f := fun a' _ _ e' => by
  injection e' with e1
  rw [← e1]
  exact h a i ns e
theorem SAt.map {base rb : Nat} {T : List Tk} {tv pv : Value} {w0 : World} {nv0 : Value} {q0 : List Qn} {i0 ad sl d : Nat} {L : List Nat} {w : World} {α β : Type} {r : PR α} (h : SAt base rb T tv pv w0 nv0 q0 i0 ad sl d L w r) (f : α → β) : SAt base rb T tv pv w0 nv0 q0 i0 ad sl d L w (r.then fun a i ns => .ok (f a) i ns) := by
  cases r <;> exact h
theorem Val.map {α β γ : Type} {r : PR α} {v : β} {f : α → β} (h : Val r v f) (F : α → γ) (g : γ → β) (hg : ∀ a, g (F a) = f a) : Val (r.then fun a i ns => .ok (F a) i ns) v g :=
  h.then _ _ fun a i ns b i' ns' e => by injection e with e1; rw [← e1, hg]
theorem SAt.less {base rb : Nat} {T : List Tk} {tv pv : Value} {w0 : World} {nv0 : Value} {q0 : List Qn} {i0 ad sl d : Nat} {L : List Nat} {w : World} {α : Type} {r : PR α} (h : SAt base rb T tv pv w0 nv0 q0 i0 ad sl d L w r) {ad' sl' : Nat} (h1 : ad' ≤ ad) (h2 : sl' ≤ sl) : SAt base rb T tv pv w0 nv0 q0 i0 ad' sl' d L w r := by
  rcases r with ⟨a, i, ns⟩ | i
  · obtain ⟨nv, q, hS, hq, hM, h3, h4, hO⟩ := h
    exact ⟨nv, q, hS, hq, hM, by omega, by omega, hO⟩
  · exact h

theorem exprG_less {T : List Tk} {R : Fns} {d i k i' : Nat} {ns ns' : List Nd} (hd : ¬ d = 30) (hs : sumG T R (d + 1) i ns = .ok k i' ns') (hw : wS T i' = (ByteArray.mk #[60])) : exprG T R d i ns = (sumG T R (d + 1) (i' + 1) ns').then fun b i ns => putF ⟨8, empS, 0, [(k : Int), (b : Int)]⟩ i ns := by
  rw [exprG_not hd, hs, PR.then_ok, hw]
  rfl
theorem exprG_same {T : List Tk} {R : Fns} {d i k i' : Nat} {ns ns' : List Nd} (hd : ¬ d = 30) (hs : sumG T R (d + 1) i ns = .ok k i' ns') (hw : wS T i' = (ByteArray.mk #[61, 61])) : exprG T R d i ns = (sumG T R (d + 1) (i' + 1) ns').then fun b i ns => putF ⟨9, empS, 0, [(k : Int), (b : Int)]⟩ i ns := by
  rw [exprG_not hd, hs, PR.then_ok, hw]
  rfl
theorem exprG_none {T : List Tk} {R : Fns} {d i : Nat} {ns : List Nd} (hd : ¬ d = 30) (h1 : ∀ k i' ns', sumG T R (d + 1) i ns = .ok k i' ns' → ¬ wS T i' = (ByteArray.mk #[60])) (h2 : ∀ k i' ns', sumG T R (d + 1) i ns = .ok k i' ns' → ¬ wS T i' = (ByteArray.mk #[61, 61])) : exprG T R d i ns = sumG T R (d + 1) i ns := by
  rw [exprG_not hd]
  rcases hs : sumG T R (d + 1) i ns with ⟨k, i', ns'⟩ | i'
  · have a1 := h1 k i' ns' hs
    have a2 := h2 k i' ns' hs
    have hc : cmpKind (wS T i') = none := by rw [cmpKind, if_neg a1, if_neg a2]
    rw [PR.then_ok, hc]
  · rfl
theorem pair_ok {β : Type} {r : PR β} {p : Unit × β} {i : Nat} {ns : List Nd} (h : (r.then fun k i ns => PR.ok ((), k) i ns) = .ok p i ns) : r = .ok p.2 i ns := by
  rcases r with ⟨k, i', ns'⟩ | i'
  · injection h with h1 h2 h3
    rw [← h1, h2, h3]
  · cases h
theorem pair_ok' {β : Type} {r : PR β} {k : β} {i : Nat} {ns : List Nd} (h : r = .ok k i ns) : (r.then fun k i ns => PR.ok ((), k) i ns) = .ok ((), k) i ns := by rw [h, PR.then_ok]

set_option maxHeartbeats 4000000 in
theorem sexpr_step {base rb : Nat} {T : List Tk} {tv pv : Value} {n : Nat} (hT : Goods T) (hS : SSumC base rb T tv pv n) : SExprC base rb T tv pv n := by
  intro w i d nv q h hn
  have hq0 := h.hq
  obtain ⟨TOP, hTOP⟩ : ∃ r, exprG T (fns T n) d i (qnds q) = r := ⟨_, rfl⟩
  rw [hTOP]
  have hres : Hid (exprG T (fns T n) d i (qnds q) = TOP) := hTOP
  clear hTOP
  go_enter Try.func71, Try.ntmps71
  by_cases hd : d = 30
  · subst hd
    go_wp2_with fail
    refine (sdown_deep h).mono ?_
    rintro e w1 ⟨rfl, h1, f1⟩
    go_wp2
    rw [← hres.out, exprG_deep]
    go_ret
    exact ⟨0, rfl, h1, f1.gz nv⟩
  · go_wp2_with fail
    refine (sdown_any h hd).mono ?_
    rintro e w1 ⟨rfl, h1, m1⟩
    have s1 : SAt base rb T tv pv w nv q i 0 0 (d + 1) [] w1 (PR.ok () i (qnds q)) := ⟨nv, q, h1, rfl, m1, by omega, by omega, fun g hg => by cases hg⟩
    go_wp2_with fail
    refine (part_s s1 _ (fun i ns => sumG T (fns T n) (d + 1) i ns) (fun w i nv q h hi => hS w i (d + 1) nv q h (by omega)) (fun w i h => ssum_bad h)).mono ?_
    rintro e w2 ⟨z, rfl, s2, v2, -⟩
    rw [PR.then_ok] at s2 v2
    go_wp2_with fail
    refine (take_s hT s2 ask_less).mono ?_
    rintro e w3 ⟨-, ⟨rfl, a, i3, ns3, hr3, hs3, s3⟩ | ⟨rfl, s3, hn3⟩⟩
    · have v3 := v2.ok hr3 (i3 + 1) ns3
      have hres2 : Hid (TOP = _) := hres.out.symm.trans (exprG_less hd (pair_ok hr3) hs3)
      clear hs3 hr3
      go_wp2_with fail
      refine (part_s s3 _ (fun i ns => sumG T (fns T n) (d + 1) i ns) (fun w i nv q h hi => hS w i (d + 1) nv q h (by omega)) (fun w i h => ssum_bad h)).mono ?_
      rintro e w4 ⟨y, rfl, s4, v4, -⟩
      have v34 := v3.pair (fun i ns => sumG T (fns T n) (d + 1) i ns)
      go_wp2_with fail
      refine (node_s s4 ⟨8, empS, 0, [z, y]⟩ _ (v34.map2 v4 fun (a b : Int) => (⟨8, empS, 0, [a, b]⟩ : Nd)) (by simp) hq0).mono ?_
      rintro e w5 ⟨k5, rfl, s5, v5⟩
      obtain ⟨x5, c5, z5, s6, -⟩ := s5.up
      go_wp2
      go_ret
      rw [hres2.out]
      simp only [PR.then_ok, PR.then_assoc] at s6 v5
      exact done_s s6 v5 0 (by omega) (by omega)
    · go_wp2_with fail
      refine (take_s hT s3 ask_same).mono ?_
      rintro e w4 ⟨-, ⟨rfl, a, i3, ns3, hr3, hs3, s4⟩ | ⟨rfl, s4, hn4⟩⟩
      · have v3 := v2.ok hr3 (i3 + 1) ns3
        have hres2 : Hid (TOP = _) := hres.out.symm.trans (exprG_same hd (pair_ok hr3) hs3)
        clear hs3 hr3
        go_wp2_with fail
        refine (part_s s4 _ (fun i ns => sumG T (fns T n) (d + 1) i ns) (fun w i nv q h hi => hS w i (d + 1) nv q h (by omega)) (fun w i h => ssum_bad h)).mono ?_
        rintro e w5 ⟨y, rfl, s5, v5, -⟩
        have v35 := v3.pair (fun i ns => sumG T (fns T n) (d + 1) i ns)
        go_wp2_with fail
        refine (node_s s5 ⟨9, empS, 0, [z, y]⟩ _ (v35.map2 v5 fun (a b : Int) => (⟨9, empS, 0, [a, b]⟩ : Nd)) (by simp) hq0).mono ?_
        rintro e w6 ⟨k6, rfl, s6, v6⟩
        obtain ⟨x6, c6, z6, s7, -⟩ := s6.up
        go_wp2
        go_ret
        rw [hres2.out]
        simp only [PR.then_ok, PR.then_assoc] at s7 v6
        exact done_s s7 v6 0 (by omega) (by omega)
      · have hres2 : Hid (TOP = _) := hres.out.symm.trans (exprG_none hd (fun k i' ns' e => hn3 _ _ _ (pair_ok' e)) (fun k i' ns' e => hn4 _ _ _ (pair_ok' e)))
        clear hn3 hn4
        obtain ⟨x5, c5, z5, s6, -⟩ := s4.up
        go_wp2
        go_ret
        rw [hres2.out]
        have s7 := s6.map Prod.snd
        have v7 := v2.map Prod.snd (fun k => (k : Int)) (fun _ => rfl)
        have e7 : ((sumG T (fns T n) (d + 1) i (qnds q)).then fun k i ns => PR.ok ((), k) i ns).then (fun a i ns => PR.ok a.2 i ns) = sumG T (fns T n) (d + 1) i (qnds q) := by
          rcases sumG T (fns T n) (d + 1) i (qnds q) with ⟨k, i', ns'⟩ | i' <;> rfl
        rw [e7] at s7 v7
        exact done_s s7 v7 0 (by omega) (by omega)

/-- What reading a row leaves. -/
def SpRow (base rb : Nat) (T : List Tk) (tv pv : Value) (w : World) (nv : Value) (q : List Qn) (d i0 : Nat) (r : PR (Int × Nat)) (e : Ending) (w' : World) : Prop := match r with
  | .ok x i ns => e = .returned (.tuple #[.int .i64 x.1, .int .i64 (x.2 : Int)]) ∧ ∃ nv' q', Sd base rb T tv pv w' i d nv' q' ∧ qnds q' = ns ∧ Mv rb w nv q w' nv' q' ∧ i0 ≤ i ∧ q'.length + i0 ≤ q.length + i
  | .bad i => ∃ a b : Int, e = .returned (.tuple #[.int .i64 a, .int .i64 b]) ∧ Bd base rb T tv pv w' i ∧ Gz rb w nv w'
def SRowC (base rb : Nat) (T : List Tk) (tv pv : Value) (n : Nat) : Prop := ∀ (w : World) (i d : Nat) (nv : Value) (q : List Qn), Sd base rb T tv pv w i d nv q → T.length - i ≤ n →
  Calls Try.prog 70 #[.pointer (some ⟨rb, 0, none⟩)] w (SpRow base rb T tv pv w nv q d i (rowG T (fns T n) d i (qnds q)))

set_option maxHeartbeats 4000000 in
theorem srow_step {base rb : Nat} {T : List Tk} {tv pv : Value} {n : Nat} (hT : Goods T) (hE : SExprC base rb T tv pv n) : SRowC base rb T tv pv n := by
  intro w i d nv q h hn
  obtain ⟨TOP, hTOP⟩ : ∃ r, rowG T (fns T n) d i (qnds q) = r := ⟨_, rfl⟩
  rw [hTOP]
  have hres : Hid (rowG T (fns T n) d i (qnds q) = TOP) := hTOP
  clear hTOP
  have s0 := SAt.start h
  go_enter Try.func70, Try.ntmps70
  go_wp2_with fail
  refine (kind_s s0 4 (by decide)).mono ?_
  rintro e w1 ⟨t, rfl, s1, v1, -⟩
  have s2 := s1.fresh (Obj.cells #[.int .i64 t.k, .string t.s, .int .i64 t.n, .int .i64 t.p] 59)
  have y2 : (w1.alloc (Obj.cells #[.int .i64 t.k, .string t.s, .int .i64 t.n, .int .i64 t.p] 59)).cell? ⟨w1.heap.size, 2, none⟩ = some (.int .i64 t.n) := by simp [go_sem]
  go_wp2_with fail
  generalize (w1.alloc (Obj.cells #[.int .i64 t.k, .string t.s, .int .i64 t.n, .int .i64 t.p] 59)) = w2 at *
  refine (want_s hT s2 ask_row).mono ?_
  rintro e w3 ⟨rfl, s3, k3⟩
  have v3 := v1.skip T (ByteArray.mk #[91])
  go_wp2_with fail
  refine (part_s s3 _ (fun i ns => exprG T (fns T n) d i ns) (fun w i nv q h hi => hE w i d nv q h (by omega)) (fun w i h => sexpr_bad h)).mono ?_
  rintro e w4 ⟨z, rfl, s4, v4, k4⟩
  have v34 := v3.pair (fun i ns => exprG T (fns T n) d i ns)
  go_wp2_with fail
  refine (want_s hT s4 ask_wor).mono ?_
  rintro e w5 ⟨rfl, s5, k5⟩
  have x2 := cell_same ((k5 _ (by simp)).trans ((k4 _ (by simp)).trans (k3 _ (by simp)))) y2
  have v5 := (v34.map2 v4 fun (a : Tk) (b : Int) => (a.n, b)).skip T (ByteArray.mk #[93])
  go_wp2
  go_ret2
  rw [← hres.out]
  show SpRow base rb T tv pv w nv q d i (rowG T (fns T n) d i (qnds q)) (.returned (.tuple #[.int .i64 t.n, .int .i64 z])) w5
  have e5 : rowG T (fns T n) d i (qnds q) = (((((PR.ok () i (qnds q)).then fun a i ns => (takeF T 4 i ns).then fun t i ns => PR.ok (a, t) i ns).then fun a i ns => (skipF T (ByteArray.mk #[91]) i ns).then fun _ i ns => PR.ok a i ns).then fun a i ns => (exprG T (fns T n) d i ns).then fun k i ns => PR.ok (a, k) i ns).then fun a i ns => (skipF T (ByteArray.mk #[93]) i ns).then fun _ i ns => PR.ok a i ns).then fun a i ns => PR.ok (a.1.2.n, a.2) i ns := by
    simp only [rowG, PR.then_ok, PR.then_assoc]
  rw [e5]
  have s6 := s5.map (fun a => (a.1.2.n, a.2))
  have v6 := v5.map (fun a => (a.1.2.n, a.2)) (fun x => (x.1, (x.2 : Int))) (fun _ => rfl)
  revert s6 v6
  generalize ((((((PR.ok () i (qnds q)).then fun a i ns => (takeF T 4 i ns).then fun t i ns => PR.ok (a, t) i ns).then fun a i ns => (skipF T (ByteArray.mk #[91]) i ns).then fun _ i ns => PR.ok a i ns).then fun a i ns => (exprG T (fns T n) d i ns).then fun k i ns => PR.ok (a, k) i ns).then fun a i ns => (skipF T (ByteArray.mk #[93]) i ns).then fun _ i ns => PR.ok a i ns).then fun a i ns => PR.ok (a.1.2.n, a.2) i ns) = r6
  intro s6 v6
  rcases r6 with ⟨x, i', ns'⟩ | i'
  · obtain ⟨nv', q', hS, hq, hM, h3, h4, hO⟩ := s6
    have e6 := v6 x i' ns' rfl
    injection e6 with e7 e8
    exact ⟨by rw [← e7, ← e8], nv', q', hS, hq, hM, by omega, by omega⟩
  · obtain ⟨hB, hG, hO⟩ := s6
    exact ⟨_, _, rfl, hB, hG⟩

theorem row_s {base rb : Nat} {T : List Tk} {tv pv : Value} {w0 : World} {nv0 : Value} {q0 : List Qn} {i0 ad sl d : Nat} {L : List Nat} {w : World} {α : Type} {r : PR α} {n : Nat} (h : SAt base rb T tv pv w0 nv0 q0 i0 ad sl d L w r) (hR : SRowC base rb T tv pv n) (hn : T.length - i0 ≤ n) :
    Calls Try.prog 70 #[.pointer (some ⟨rb, 0, none⟩)] w fun e w' => ∃ t z : Int, e = .returned (.tuple #[.int .i64 t, .int .i64 z]) ∧ SAt base rb T tv pv w0 nv0 q0 i0 ad sl d L w' (r.then fun a i ns => (rowG T (fns T n) d i ns).then fun k i ns => .ok (a, k) i ns) ∧ Val (r.then fun a i ns => (rowG T (fns T n) d i ns).then fun k i ns => .ok (a, k) i ns) (t, z) (fun p => (p.2.1, (p.2.2 : Int))) ∧ ∀ g, g ∈ L → w'.heap[g]? = w.heap[g]? := by
  rcases r with ⟨a, i, ns⟩ | i
  · obtain ⟨nv, q, hS, rfl, hM, h1, h2, hO⟩ := h
    refine (hR w i d nv q hS (by omega)).mono ?_
    rcases hs : rowG T (fns T n) d i (qnds q) with ⟨k, i', ns'⟩ | i'
    · rintro e w' ⟨rfl, nv', q', hS', rfl, hM', h3, h4⟩
      rw [PR.then_ok, hs, PR.then_ok]
      refine ⟨k.1, (k.2 : Int), rfl, ⟨nv', q', hS', rfl, hM.trans hM', by omega, by omega, hO.mv hM'⟩, fun a' i' ns' e => ?_, fun g hg => hO.same hM' hg⟩
      injection e with e1
      rw [← e1]
    · rintro e w' ⟨t, z, rfl, hB, hG⟩
      rw [PR.then_ok, hs, PR.then_bad]
      exact ⟨t, z, rfl, ⟨hB, hM.thenGz hG, hO.toBad hG.size⟩, fun a' i' ns' e => (by cases e), fun g hg => hO.sameG hG hg⟩
  · obtain ⟨hB, hG, hO⟩ := h
    refine (srow_bad hB).mono ?_
    rintro e w' ⟨rfl, h4, f4⟩
    exact ⟨0, 0, rfl, ⟨h4, hG.fz f4, hO.fz f4⟩, fun a' i' ns' e => (by cases e), fun g hg => hO.same f4 hg⟩

end Go.Proofs.Ytkdlgglikhbnkac
