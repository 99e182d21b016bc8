/- impl.SameSet: what it answers. -/
import Derived.Test.YtkdlgglikhbnkacTSame
namespace Go.Proofs.Ytkdlgglikhbnkac
open Go.ChangeShapes Go.WideShapes Go.ChangeAt Go.RowKit
set_option linter.unusedVariables false
set_option maxRecDepth 100000
attribute [local go_sem ↓] Go.wp_at_zero Go.wp_at_succ

theorem sameNode_any (x x' : Nd) (v v' : Value) (w : World) {lo hi lo' hi' : Nat} (h : IntsAt lo hi w v x.kids) (h' : IntsAt lo' hi' w v' x'.kids) :
    Calls Try.prog 20 #[.agg #[.int .i64 x.k, .string x.s, .int .i64 x.n, v], .agg #[.int .i64 x'.k, .string x'.s, .int .i64 x'.n, v']] w fun e w' => Tells e (x = x') ∧ Below w.heap.size w w' := by
  obtain ⟨k, s, n, l⟩ := x
  obtain ⟨k', s', n', l'⟩ := x'
  dsimp only at h h' ⊢
  obtain ⟨a, cap, hv⟩ : ∃ a cap, v = .slice a l.length cap := by obtain ⟨a, cap, h1, _⟩ := h; exact ⟨a, cap, h1⟩
  obtain ⟨a', cap', hv'⟩ : ∃ a cap, v' = .slice a l'.length cap := by obtain ⟨a, cap, h1, _⟩ := h'; exact ⟨a, cap, h1⟩
  subst hv hv'
  have hbx : Below w.heap.size w ((w.alloc (Obj.cells #[.int .i64 k, .string s, .int .i64 n, Value.slice a l.length cap] 33)).alloc (Obj.cells #[.int .i64 k', .string s', .int .i64 n', Value.slice a' l'.length cap'] 33)) := ((Below.refl _ _).alloc (Nat.le_refl _) _).alloc (by simp) _
  by_cases e1 : k = k'
  · subst e1
    by_cases e2 : s = s'
    · subst e2
      by_cases e3 : n = n'
      · subst e3
        go_enter Try.func20, Try.ntmps20
        go_wp2_with fail
        refine (equalInts_any _ _ l l' _ (h.stays hbx) (h'.stays hbx)).mono ?_
        rintro e w2 ⟨⟨q, rfl, hq⟩, hb3⟩
        have HQ : Hid (q = true ↔ l = l') := hq
        clear hq
        go_wp2
        go_ret
        exact ⟨⟨q, rfl, HQ.out.trans ⟨fun e => by rw [e], fun e => by injection e⟩⟩, hbx.trans (hb3.mono hbx.size)⟩
      · go_enter Try.func20, Try.ntmps20
        go_wp2
        go_ret
        exact ⟨tells_false (fun e => e3 (by injection e)), hbx⟩
    · have hne := text_ne e2
      change Hid _ at e2
      go_enter Try.func20, Try.ntmps20
      go_wp2
      go_ret
      exact ⟨tells_false (fun e => e2.out (by injection e)), hbx⟩
  · go_enter Try.func20, Try.ntmps20
    go_wp2
    go_ret
    exact ⟨tells_false (fun e => e1 (by injection e)), hbx⟩

theorem sameProc_any (x x' : Pr) (v v' : Value) (w : World) {lo hi lo' hi' : Nat} (h : TextsAt lo hi w v x.ps) (h' : TextsAt lo' hi' w v' x'.ps) :
    Calls Try.prog 22 #[.agg #[.string x.name, v, .int .i64 x.body], .agg #[.string x'.name, v', .int .i64 x'.body]] w fun e w' => Tells e (x = x') ∧ Below w.heap.size w w' := by
  obtain ⟨s, l, n⟩ := x
  obtain ⟨s', l', n'⟩ := x'
  dsimp only at h h' ⊢
  obtain ⟨a, cap, hv⟩ : ∃ a cap, v = .slice a l.length cap := by obtain ⟨a, cap, h1, _⟩ := h; exact ⟨a, cap, h1⟩
  obtain ⟨a', cap', hv'⟩ : ∃ a cap, v' = .slice a l'.length cap := by obtain ⟨a, cap, h1, _⟩ := h'; exact ⟨a, cap, h1⟩
  subst hv hv'
  have hbx : Below w.heap.size w ((w.alloc (Obj.cells #[.string s, Value.slice a l.length cap, .int .i64 n] 36)).alloc (Obj.cells #[.string s', Value.slice a' l'.length cap', .int .i64 n'] 36)) := ((Below.refl _ _).alloc (Nat.le_refl _) _).alloc (by simp) _
  by_cases e2 : s = s'
  · subst e2
    by_cases e3 : n = n'
    · subst e3
      go_enter Try.func22, Try.ntmps22
      go_wp2_with fail
      refine (equalTexts_any _ _ l l' _ (h.stays hbx) (h'.stays hbx)).mono ?_
      rintro e w2 ⟨⟨q, rfl, hq⟩, hb3⟩
      have HQ : Hid (q = true ↔ l = l') := hq
      clear hq
      go_wp2
      go_ret
      exact ⟨⟨q, rfl, HQ.out.trans ⟨fun e => by rw [e], fun e => by injection e⟩⟩, hbx.trans (hb3.mono hbx.size)⟩
    · go_enter Try.func22, Try.ntmps22
      go_wp2
      go_ret
      exact ⟨tells_false (fun e => e3 (by injection e)), hbx⟩
  · have hne := text_ne e2
    change Hid _ at e2
    go_enter Try.func22, Try.ntmps22
    go_wp2
    go_ret
    exact ⟨tells_false (fun e => e2.out (by injection e)), hbx⟩

set_option maxHeartbeats 1000000 in
theorem equalNodes_any (v v' : Value) (l l' : List Nd) (w : World) {lo hi lo' hi' : Nat} (h : NodesAt lo hi w v l) (h' : NodesAt lo' hi' w v' l') :
    Calls Try.prog 19 #[v, v', .func (.func 20) #[] #[]] w fun e w' => Tells e (l = l') ∧ Below w.heap.size w w' := by
  obtain ⟨a, cap, rfl, hm, hc⟩ := h
  obtain ⟨a', cap', rfl, hm', hc'⟩ := h'
  unfold maxLen at hm hm'
  by_cases hL : l.length = l'.length
  · have hn : l'.length = l.length := hL.symm
    rw [hn] at hc' ⊢
    change Hid _ at hn
    clear hL
    go_enter Try.func19, Try.ntmps19
    go_wp2
    go_loopw [17] (fun i wr => ∃ k : Nat, k ≤ l.length ∧ i = .int .i64 k ∧ Below w.heap.size w wr ∧ Hid (∀ j, j < k → ndAt l j = ndAt l' j)) (fun i _ => l.length - (intOf i).toNat)
    case atStart => exact ⟨0, Nat.zero_le _, rfl, Below.refl _ _, fun j hj => absurd hj (Nat.not_lt_zero _)⟩
    case round =>
      obtain ⟨k, hk, rfl, hb, hall⟩ := hrel
      by_cases hlt : k < l.length
      · obtain ⟨b, off, rfl, _, _, hcc⟩ := hc (by omega)
        obtain ⟨b', off', rfl, _, _, hcc'⟩ := hc' (by omega)
        obtain ⟨c0, c1, c2, ca, cb, c3, c4⟩ := hcc k hlt
        obtain ⟨d0, d1, d2, da, db, d3, d4⟩ := hcc' k hlt
        replace c0 := cell_stays hb c0
        replace c1 := cell_stays hb c1
        replace c2 := cell_stays hb c2
        replace c3 := cell_stays hb c3
        replace d0 := cell_stays hb d0
        replace d1 := cell_stays hb d1
        replace d2 := cell_stays hb d2
        replace d3 := cell_stays hb d3
        have l0 := cell_lt c0
        have l1 := cell_lt d0
        dsimp only at l0 l1
        have hz := hb.size
        clear hcc hc hcc' hc' hn
        go_wp2_with fail
        refine Calls.mono (sameNode_any (ndAt l k) (ndAt l' k) _ _ _ (c4.stays ?hbx) (d4.stays ?hby)) ?_
        case hbx => go_grown
        case hby => go_grown
        rintro e w2 ⟨⟨q, rfl, hq⟩, hb3⟩
        have hb4 : Below w.heap.size w w2 := Below.trans (by go_grown) (hb3.mono (by simp; have := hb.size; omega))
        clear c0 c1 c2 c3 d0 d1 d2 d3 c4 d4
        cases q
        · have hq' : ¬ ndAt l k = ndAt l' k := fun e => by have := hq.2 e; cases this
          clear hq
          go_wp2
          go_ret
          exact ⟨tells_false (fun e => hq' (by rw [e])), hb4⟩
        · have hall2 : Hid (∀ j, j < k + 1 → ndAt l j = ndAt l' j) := fun j hj => by
            by_cases e : j = k
            · subst e; exact hq.1 rfl
            · exact hall.out j (by omega)
          clear hq
          go_wp2
          go_roundw
          case rel => exact ⟨k + 1, by omega, by go_num, hb4, hall2⟩
          case measure => simp [intOf]; omega
      · have hkl : k = l.length := by omega
        subst hkl
        go_wp2
        go_ret
        exact ⟨tells_true (ext_ndAt hn.out.symm hall.out), hb⟩
  · have hL' : ¬ ((l.length : Int) = (l'.length : Int)) := by omega
    go_enter Try.func19, Try.ntmps19
    go_wp2
    go_ret
    exact ⟨tells_false (fun e => hL (by rw [e])), Below.refl _ _⟩

set_option maxHeartbeats 1000000 in
theorem equalProcs_any (v v' : Value) (l l' : List Pr) (w : World) {lo hi lo' hi' : Nat} (h : ProcsAt lo hi w v l) (h' : ProcsAt lo' hi' w v' l') :
    Calls Try.prog 21 #[v, v', .func (.func 22) #[] #[]] w fun e w' => Tells e (l = l') ∧ Below w.heap.size w w' := by
  obtain ⟨a, cap, rfl, hm, hc⟩ := h
  obtain ⟨a', cap', rfl, hm', hc'⟩ := h'
  unfold maxLen at hm hm'
  by_cases hL : l.length = l'.length
  · have hn : l'.length = l.length := hL.symm
    rw [hn] at hc' ⊢
    change Hid _ at hn
    clear hL
    go_enter Try.func21, Try.ntmps21
    go_wp2
    go_loopw [17] (fun i wr => ∃ k : Nat, k ≤ l.length ∧ i = .int .i64 k ∧ Below w.heap.size w wr ∧ Hid (∀ j, j < k → prAt l j = prAt l' j)) (fun i _ => l.length - (intOf i).toNat)
    case atStart => exact ⟨0, Nat.zero_le _, rfl, Below.refl _ _, fun j hj => absurd hj (Nat.not_lt_zero _)⟩
    case round =>
      obtain ⟨k, hk, rfl, hb, hall⟩ := hrel
      by_cases hlt : k < l.length
      · obtain ⟨b, off, rfl, _, _, hcc⟩ := hc (by omega)
        obtain ⟨b', off', rfl, _, _, hcc'⟩ := hc' (by omega)
        obtain ⟨c0, ⟨ca, cb, c1, c4⟩, c2⟩ := hcc k hlt
        obtain ⟨d0, ⟨da, db, d1, d4⟩, d2⟩ := hcc' k hlt
        replace c0 := cell_stays hb c0
        replace c1 := cell_stays hb c1
        replace c2 := cell_stays hb c2
        replace d0 := cell_stays hb d0
        replace d1 := cell_stays hb d1
        replace d2 := cell_stays hb d2
        have l0 := cell_lt c0
        have l1 := cell_lt d0
        dsimp only at l0 l1
        have hz := hb.size
        clear hcc hc hcc' hc' hn
        go_wp2_with fail
        refine Calls.mono (sameProc_any (prAt l k) (prAt l' k) _ _ _ (c4.stays ?hbx) (d4.stays ?hby)) ?_
        case hbx => go_grown
        case hby => go_grown
        rintro e w2 ⟨⟨q, rfl, hq⟩, hb3⟩
        have hb4 : Below w.heap.size w w2 := Below.trans (by go_grown) (hb3.mono (by simp; have := hb.size; omega))
        clear c0 c1 c2 d0 d1 d2 c4 d4
        cases q
        · have hq' : ¬ prAt l k = prAt l' k := fun e => by have := hq.2 e; cases this
          clear hq
          go_wp2
          go_ret
          exact ⟨tells_false (fun e => hq' (by rw [e])), hb4⟩
        · have hall2 : Hid (∀ j, j < k + 1 → prAt l j = prAt l' j) := fun j hj => by
            by_cases e : j = k
            · subst e; exact hq.1 rfl
            · exact hall.out j (by omega)
          clear hq
          go_wp2
          go_roundw
          case rel => exact ⟨k + 1, by omega, by go_num, hb4, hall2⟩
          case measure => simp [intOf]; omega
      · have hkl : k = l.length := by omega
        subst hkl
        go_wp2
        go_ret
        exact ⟨tells_true (ext_prAt hn.out.symm hall.out), hb⟩
  · have hL' : ¬ ((l.length : Int) = (l'.length : Int)) := by omega
    go_enter Try.func21, Try.ntmps21
    go_wp2
    go_ret
    exact ⟨tells_false (fun e => hL (by rw [e])), Below.refl _ _⟩

theorem implSameSet_any (v u v' u' : Value) (l l' : List Nd) (p p' : List Pr) (w : World) {lo hi lo' hi' : Nat} (h : SetAt lo hi w v u l p) (h' : SetAt lo' hi' w v' u' l' p') :
    Calls Try.prog 8 #[.agg #[v, u], .agg #[v', u']] w fun e w' => Tells e (l = l' ∧ p = p') ∧ Below w.heap.size w w' := by
  obtain ⟨a, c, b, d, rfl, rfl⟩ := h.forms
  obtain ⟨a', c', b', d', rfl, rfl⟩ := h'.forms
  have hbx : Below w.heap.size w ((w.alloc (Obj.cells #[Value.slice a l.length c, Value.slice b p.length d] 27)).alloc (Obj.cells #[Value.slice a' l'.length c', Value.slice b' p'.length d'] 27)) := ((Below.refl _ _).alloc (Nat.le_refl _) _).alloc (by simp) _
  go_enter Try.func8, Try.ntmps8
  go_wp2_with fail
  refine (equalNodes_any _ _ l l' _ (h.1.stays hbx) (h'.1.stays hbx)).mono ?_
  rintro e w2 ⟨⟨q, rfl, hq⟩, hb2⟩
  have p1 : w2.cell? ⟨w.heap.size, 1, none⟩ = some (.slice b p.length d) := cell_stays hb2 (by simp [go_sem])
  have p2 : w2.cell? ⟨w.heap.size + 1, 1, none⟩ = some (.slice b' p'.length d') := cell_stays hb2 (by simp [go_sem])
  have hb3 := hbx.trans (hb2.mono hbx.size)
  cases q
  · have hq' : ¬ l = l' := fun e => by have := hq.2 e; cases this
    clear hq
    go_wp2
    go_ret
    exact ⟨tells_false (fun e => hq' e.1), hb3⟩
  · have hq' := hq.1 rfl
    change Hid _ at hq'
    clear hq
    go_wp2_with fail
    refine (equalProcs_any _ _ p p' _ (h.2.stays hb3) (h'.2.stays hb3)).mono ?_
    rintro e w4 ⟨⟨q4, rfl, hq4⟩, hb4⟩
    change Hid _ at hq4
    go_wp2
    go_ret
    exact ⟨⟨q4, rfl, hq4.out.trans ⟨fun e => ⟨hq'.out, e⟩, fun e => e.2⟩⟩, hb3.trans (hb4.mono hb3.size)⟩

end Go.Proofs.Ytkdlgglikhbnkac
