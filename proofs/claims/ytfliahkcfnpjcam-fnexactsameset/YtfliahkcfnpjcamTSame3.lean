/- spec.SameSet: what it answers. -/
import Derived.Test.YtfliahkcfnpjcamTSame
namespace Go.Proofs.Ytfliahkcfnpjcam
open Go.ChangeShapes Go.WideShapes Go.ChangeAt Go.RowKit
set_option linter.unusedVariables false
set_option maxRecDepth 100000
attribute [local go_sem ↓] Go.wp_at_zero Go.wp_at_succ

theorem nd_ext {x y : Nd} (h1 : x.k = y.k) (h2 : x.s = y.s) (h3 : x.n = y.n) (h4 : x.kids = y.kids) : x = y := by
  cases x; cases y; simp_all
theorem pr_ext {x y : Pr} (h1 : x.name = y.name) (h2 : x.ps = y.ps) (h3 : x.body = y.body) : x = y := by
  cases x; cases y; simp_all

set_option maxHeartbeats 4000000 in
theorem specSameSet_any (v u v' u' : Value) (l l' : List Nd) (p p' : List Pr) (w : World) {lo hi lo' hi' : Nat} (h : SetAt lo hi w v u l p) (h' : SetAt lo' hi' w v' u' l' p') :
    Calls Try.prog 9 #[.agg #[v, u], .agg #[v', u']] w fun e w' => Tells e (l = l' ∧ p = p') ∧ Below w.heap.size w w' := by
  obtain ⟨⟨a, c, rfl, hm, hc⟩, ⟨b, d, rfl, hpm, hpc⟩⟩ := h
  obtain ⟨⟨a', c', rfl, hm', hc'⟩, ⟨b', d', rfl, hpm', hpc'⟩⟩ := h'
  unfold maxLen at hm hm' hpm hpm'
  have hbx : Below w.heap.size w ((w.alloc (Obj.cells #[Value.slice a l.length c, Value.slice b p.length d] 31)).alloc (Obj.cells #[Value.slice a' l'.length c', Value.slice b' p'.length d'] 31)) := ((Below.refl _ _).alloc (Nat.le_refl _) _).alloc (by simp) _
  by_cases hL : l.length = l'.length
  · have hn : l'.length = l.length := hL.symm
    by_cases hP : p.length = p'.length
    · have hq : p'.length = p.length := hP.symm
      rw [hn] at hc' ⊢
      rw [hq] at hpc' ⊢
      rw [hn, hq] at hbx
      change Hid _ at hn
      change Hid _ at hq
      clear hL hP
      have P0 : ((w.alloc (Obj.cells #[Value.slice a l.length c, Value.slice b p.length d] 31)).alloc (Obj.cells #[Value.slice a' l.length c', Value.slice b' p.length d'] 31)).cell? ⟨w.heap.size, 0, none⟩ = some (Value.slice a l.length c) := by simp [go_sem]
      have P1 : ((w.alloc (Obj.cells #[Value.slice a l.length c, Value.slice b p.length d] 31)).alloc (Obj.cells #[Value.slice a' l.length c', Value.slice b' p.length d'] 31)).cell? ⟨w.heap.size, 1, none⟩ = some (Value.slice b p.length d) := by simp [go_sem]
      have P2 : ((w.alloc (Obj.cells #[Value.slice a l.length c, Value.slice b p.length d] 31)).alloc (Obj.cells #[Value.slice a' l.length c', Value.slice b' p.length d'] 31)).cell? ⟨w.heap.size + 1, 0, none⟩ = some (Value.slice a' l.length c') := by simp [go_sem]
      have P3 : ((w.alloc (Obj.cells #[Value.slice a l.length c, Value.slice b p.length d] 31)).alloc (Obj.cells #[Value.slice a' l.length c', Value.slice b' p.length d'] 31)).cell? ⟨w.heap.size + 1, 1, none⟩ = some (Value.slice b' p.length d') := by simp [go_sem]
      go_enter Try.func9, Try.ntmps9
      go_wp2
      generalize hW0 : (w.alloc (Obj.cells #[Value.slice a l.length c, Value.slice b p.length d] 31)).alloc (Obj.cells #[Value.slice a' l.length c', Value.slice b' p.length d'] 31) = W0 at *
      clear hW0
      go_loopw [5] (fun i wr => ∃ k : Nat, k ≤ l.length ∧ i = .int .i64 k ∧ Below W0.heap.size W0 wr ∧ Hid (∀ j, j < k → ndAt l j = ndAt l' j)) (fun i _ => l.length - (intOf i).toNat)
      case atStart => exact ⟨0, Nat.zero_le _, rfl, Below.refl _ _, fun j hj => absurd hj (Nat.not_lt_zero _)⟩
      case round =>
        obtain ⟨k, hk, rfl, hb, hall⟩ := hrel
        have q0 := cell_stays hb P0
        have q1 := cell_stays hb P1
        have q2 := cell_stays hb P2
        have q3 := cell_stays hb P3
        have bw := hbx.trans (hb.mono hbx.size)
        have z0 := cell_lt q0
        have z2 := cell_lt q2
        dsimp only at z0 z2
        by_cases hlt : k < l.length
        · obtain ⟨g, off, rfl, _, _, hcc⟩ := hc (by omega)
          obtain ⟨g', off', rfl, _, _, hcc'⟩ := hc' (by omega)
          obtain ⟨c0, c1, c2, ca, cb, c3, c4⟩ := hcc k hlt
          obtain ⟨d0, d1, d2, da, db, d3, d4⟩ := hcc' k hlt
          replace c0 := cell_stays bw c0
          replace c1 := cell_stays bw c1
          replace c2 := cell_stays bw c2
          replace c3 := cell_stays bw c3
          replace d0 := cell_stays bw d0
          replace d1 := cell_stays bw d1
          replace d2 := cell_stays bw d2
          replace d3 := cell_stays bw d3
          have l0 := cell_lt c0
          have l1 := cell_lt d0
          dsimp only at l0 l1
          have hz := bw.size
          have hz2 := hb.size
          clear hcc hc hcc' hc' hn P0 P1 P2 P3 hpc hpc' hq
          by_cases e1 : (ndAt l k).k = (ndAt l' k).k
          · rw [← e1] at d0
            by_cases e2 : (ndAt l k).s = (ndAt l' k).s
            · rw [← e2] at d1
              by_cases e3 : (ndAt l k).n = (ndAt l' k).n
              · rw [← e3] at d2
                change Hid _ at e1
                change Hid _ at e2
                change Hid _ at e3
                go_wp2_with fail
                refine Calls.mono (l4sameInts_any _ _ (ndAt l k).kids (ndAt l' k).kids _ (c4.stays ?hbx) (d4.stays ?hby)) ?_
                case hbx => go_grown
                case hby => go_grown
                rintro e w2 ⟨⟨q, rfl, hq⟩, hb3⟩
                have hb4 : Below W0.heap.size W0 w2 := Below.trans (by go_grown) (hb3.mono (by simp; omega))
                clear c0 c1 c2 c3 d0 d1 d2 d3 c4 d4 q0 q1 q2 q3
                cases q
                · have hq' : ¬ (ndAt l k).kids = (ndAt l' k).kids := fun e => by have := hq.2 e; cases this
                  clear hq
                  go_wp2
                  go_ret
                  exact ⟨tells_false (fun e => hq' (by rw [e.1])), hbx.trans (hb4.mono hbx.size)⟩
                · have hall2 : Hid (∀ j, j < k + 1 → ndAt l j = ndAt l' j) := fun j hj => by
                    by_cases e : j = k
                    · subst e; exact nd_ext e1.out e2.out e3.out (hq.1 rfl)
                    · exact hall.out j (by omega)
                  clear hq
                  go_wp2
                  go_roundw
                  case rel => exact ⟨k + 1, by omega, by go_num, hb4, hall2⟩
                  case measure => simp [intOf]; omega
              · clear c4 d4
                go_wp2
                go_ret
                exact ⟨tells_false (fun e => e3 (by rw [e.1])), by go_grown⟩
            · have hne := text_ne e2
              change Hid _ at e2
              clear c4 d4
              go_wp2
              go_ret
              exact ⟨tells_false (fun e => e2.out (by rw [e.1])), by go_grown⟩
          · clear c4 d4
            go_wp2
            go_ret
            exact ⟨tells_false (fun e => e1 (by rw [e.1])), by go_grown⟩
        · have hkl : k = l.length := by omega
          subst hkl
          have hLL : Hid (l = l') := ext_ndAt hn.out.symm hall.out
          clear hall hc hc' hn P0 P1 P2 P3
          go_wp2
          rename World => w1
          generalize w1 = wA at *
          go_loopw [8] (fun i wr => ∃ k : Nat, k ≤ p.length ∧ i = .int .i64 k ∧ Below wA.heap.size wA wr ∧ Hid (∀ j, j < k → prAt p j = prAt p' j)) (fun i _ => p.length - (intOf i).toNat)
          case atStart => exact ⟨0, Nat.zero_le _, rfl, Below.refl _ _, fun j hj => absurd hj (Nat.not_lt_zero _)⟩
          case round =>
            obtain ⟨k, hk, rfl, hb2, hall⟩ := hrel
            have r1 := cell_stays hb2 q1
            have r3 := cell_stays hb2 q3
            have bw2 := bw.trans (hb2.mono bw.size)
            have z0' := cell_lt r1
            have z2' := cell_lt r3
            dsimp only at z0' z2'
            by_cases hlt : k < p.length
            · obtain ⟨g, off, rfl, _, _, hcc⟩ := hpc (by omega)
              obtain ⟨g', off', rfl, _, _, hcc'⟩ := hpc' (by omega)
              obtain ⟨c0, ⟨ca, cb, c1, c4⟩, c2⟩ := hcc k hlt
              obtain ⟨d0, ⟨da, db, d1, d4⟩, d2⟩ := hcc' k hlt
              replace c0 := cell_stays bw2 c0
              replace c1 := cell_stays bw2 c1
              replace c2 := cell_stays bw2 c2
              replace d0 := cell_stays bw2 d0
              replace d1 := cell_stays bw2 d1
              replace d2 := cell_stays bw2 d2
              have l0 := cell_lt c0
              have l1 := cell_lt d0
              dsimp only at l0 l1
              have hz := bw2.size
              have hz2 := hb2.size
              clear hcc hpc hcc' hpc' hq q0 q1 q2 q3
              by_cases e1 : (prAt p k).name = (prAt p' k).name
              · rw [← e1] at d0
                by_cases e3 : (prAt p k).body = (prAt p' k).body
                · rw [← e3] at d2
                  change Hid _ at e1
                  change Hid _ at e3
                  go_wp2_with fail
                  refine Calls.mono (l4sameTexts_any _ _ (prAt p k).ps (prAt p' k).ps _ (c4.stays ?hbx) (d4.stays ?hby)) ?_
                  case hbx => go_grown
                  case hby => go_grown
                  rintro e w2 ⟨⟨q, rfl, hq⟩, hb3⟩
                  have hb4 : Below wA.heap.size wA w2 := Below.trans (by go_grown) (hb3.mono (by simp; omega))
                  clear c0 c1 c2 d0 d1 d2 c4 d4 r1 r3
                  cases q
                  · have hq' : ¬ (prAt p k).ps = (prAt p' k).ps := fun e => by have := hq.2 e; cases this
                    clear hq
                    go_wp2
                    go_ret
                    exact ⟨tells_false (fun e => hq' (by rw [e.2])), bw.trans (hb4.mono bw.size)⟩
                  · have hall2 : Hid (∀ j, j < k + 1 → prAt p j = prAt p' j) := fun j hj => by
                      by_cases e : j = k
                      · subst e; exact pr_ext e1.out (hq.1 rfl) e3.out
                      · exact hall.out j (by omega)
                    clear hq
                    go_wp2
                    go_roundw
                    case rel => exact ⟨k + 1, by omega, by go_num, hb4, hall2⟩
                    case measure => simp [intOf]; omega
                · clear c4 d4
                  go_wp2
                  go_ret
                  exact ⟨tells_false (fun e => e3 (by rw [e.2])), by go_grown⟩
              · have hne := text_ne e1
                change Hid _ at e1
                clear c4 d4
                go_wp2
                go_ret
                exact ⟨tells_false (fun e => e1.out (by rw [e.2])), by go_grown⟩
            · have hkl : k = p.length := by omega
              subst hkl
              have hPP : Hid (p = p') := ext_prAt hq.out.symm hall.out
              clear hall hpc hpc' hq
              go_wp2
              go_ret
              exact ⟨tells_true ⟨hLL.out, hPP.out⟩, bw2⟩
    · have hL' : ¬ ((p.length : Int) = (p'.length : Int)) := by omega
      have hP' : Hid (¬ p.length = p'.length) := hP
      rw [hn] at hbx ⊢
      change Hid _ at hn
      clear hL hP
      go_enter Try.func9, Try.ntmps9
      go_wp2
      go_ret
      exact ⟨tells_false (fun e => hP'.out (by rw [e.2])), hbx⟩
  · have hL' : ¬ ((l.length : Int) = (l'.length : Int)) := by omega
    go_enter Try.func9, Try.ntmps9
    go_wp2
    go_ret
    exact ⟨tells_false (fun e => hL (by rw [e.1])), hbx⟩
end Go.Proofs.Ytfliahkcfnpjcam
