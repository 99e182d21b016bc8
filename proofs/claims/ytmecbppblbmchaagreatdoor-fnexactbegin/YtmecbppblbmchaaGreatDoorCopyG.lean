import Derived.Test.YtmecbppblbmchaaGreatDoorMOk
import Derived.Test.YtmecbppblbmchaaGreatDoorLastV
/- The program's MgrOk. -/
namespace Go.Proofs.YtmecbppblbmchaaGreatDoor
open Go.ChangeShapes Go.WideShapes Go.ChangeAt Go.RowKit Go.Sort
set_option linter.unusedVariables false
set_option maxRecDepth 100000
attribute [local go_sem ↓] Go.wp_at_zero Go.wp_at_succ

/-- The box of a state: what is read of it. -/
structure MBox (w : World) (b : Nat) (vs : Value) (c n : Int) (vt ve : Value) : Prop where
  s : w.cell? ⟨b, 0, none⟩ = some vs
  c : w.cell? ⟨b, 1, none⟩ = some (.int .i64 c)
  n : w.cell? ⟨b, 2, none⟩ = some (.int .i64 n)
  x : w.cell? ⟨b, 3, none⟩ = some vt
  h : w.cell? ⟨b, 4, none⟩ = some ve
theorem MBox.stays {w w' : World} {b : Nat} {vs : Value} {c n : Int} {vt ve : Value} (h : MBox w b vs c n vt ve) (hb : Below w.heap.size w w') : MBox w' b vs c n vt ve :=
  ⟨cell_stays hb h.s, cell_stays hb h.c, cell_stays hb h.n, cell_stays hb h.x, cell_stays hb h.h⟩
theorem MBox.new (w : World) (vs : Value) (c n : Int) (vt ve : Value) (T : TypeId) : MBox (w.alloc (Obj.cells #[vs, .int .i64 c, .int .i64 n, vt, ve] T)) w.heap.size vs c n vt ve := ⟨by simp, by simp, by simp, by simp, by simp⟩

set_option maxHeartbeats 1000000 in
theorem txsOk_any (vs vt ve : Value) (m : Md) (w : World) {lo hi : Nat} (h : TxsAt lo hi w vt m.x) :
    Calls Tryz.prog 108 #[.agg #[vs, .int .i64 m.c, .int .i64 m.n, vt, ve]] w fun e w' => Says e (txsOk m) ∧ Below w.heap.size w w' := by
  obtain ⟨a, cap, rfl, hm, hc⟩ := h
  unfold maxLen at hm
  have hbx : Below w.heap.size w (w.alloc (Obj.cells #[vs, .int .i64 m.c, .int .i64 m.n, Value.slice a m.x.length cap, ve] 36)) := (Below.refl _ _).alloc (Nat.le_refl _) _
  by_cases h2 : 8 < m.x.length
  · clear hc
    go_enter Tryz.func108, Tryz.ntmps108
    go_wp2
    go_ret
    exact ⟨says_no fun h => by have := h.1; omega, hbx⟩
  · go_enter Tryz.func108, Tryz.ntmps108
    go_wp2
    go_loopw [3, 13] (fun x i wr => ∃ k : Nat, k ≤ m.x.length ∧ i = .int .i64 k ∧ x = .int .i64 (if k = 0 then 0 else (tAt m.x (k - 1)).i) ∧ Below w.heap.size w wr ∧ MBox wr w.heap.size vs m.c m.n (.slice a m.x.length cap) ve ∧ ∀ j, j < k → txOk m j) (fun _ i _ => m.x.length - (intOf i).toNat)
    case atStart => exact ⟨0, Nat.zero_le _, rfl, rfl, hbx, MBox.new _ _ _ _ _ _ _, fun j hj => absurd hj (Nat.not_lt_zero _)⟩
    case round =>
      rename World => wo
      obtain ⟨k, hk, rfl, rfl, hb, hbox, hs⟩ := hrel
      generalize hx : (if k = 0 then (0 : Int) else (tAt m.x (k - 1)).i) = x
      have HX : Hid ((if k = 0 then (0 : Int) else (tAt m.x (k - 1)).i) = x) := hx
      clear hx
      by_cases hlt : k < m.x.length
      · obtain ⟨b, off, rfl, hlo, hhi, hcc⟩ := hc (by omega)
        obtain ⟨c0, c1, ca, cb, c2, c3⟩ := hcc k hlt
        replace c0 := cell_stays hb c0
        replace c1 := cell_stays hb c1
        replace c2 := cell_stays hb c2
        replace c3 := c3.stays hb
        have i0 : (0 : Int) ≤ (k : Int) := by omega
        have i1 : (k : Int) < (m.x.length : Int) := by omega
        have q1 := hbox.c
        have q2 := hbox.n
        clear hc hcc
        have hA : Below wo.heap.size wo (wo.alloc (Obj.cells #[Value.int IntKind.i64 (tAt m.x k).i, Value.int IntKind.i64 (tAt m.x k).s, Value.slice ca (tAt m.x k).w.length cb] 97)) := (Below.refl _ _).alloc (Nat.le_refl _) _
        have hBA := hb.trans (hA.mono hb.size)
        have q1' := cell_stays hA q1
        have q2' := cell_stays hA q2
        have hprev : ∀ y, txOk m k → y ≤ x → y < (tAt m.x k).i := fun y hy hle => by
          have h5 := HX.out
          by_cases hz : k = 0
          · rw [if_pos hz] at h5; have := hy.1; omega
          · rw [if_neg hz] at h5; have := hy.2.2.1 (by omega); omega
        by_cases h3 : (tAt m.x k).i ≤ x
        · go_wp2_with fail
          go_ret
          exact ⟨says_no fun h => by have := hprev _ (h.2 k hlt) h3; omega, hBA⟩
        · by_cases h4 : m.n ≤ (tAt m.x k).i
          · go_wp2_with fail
            go_ret
            exact ⟨says_no fun h => by have := (h.2 k hlt).2.1; omega, hBA⟩
          · by_cases h5 : (tAt m.x k).s < 0
            · go_wp2_with fail
              go_ret
              exact ⟨says_no fun h => by have := (h.2 k hlt).2.2.2.1; omega, hBA⟩
            · by_cases h6 : m.c < (tAt m.x k).s
              · go_wp2_with fail
                go_ret
                exact ⟨says_no fun h => by have := (h.2 k hlt).2.2.2.2.1; omega, hBA⟩
              · by_cases h7 : rowsOk (tAt m.x k).w
                · go_wp2_with (go_at_call 139; refine (writesOk_any _ _ _ (c3.stays hA)).mono ?_; rintro e w1 ⟨⟨q, rfl, hq⟩, hb1⟩; obtain rfl := hq.2 h7; clear hq; have r0 : w1.cell? ⟨wo.heap.size, 0, none⟩ = some (.int .i64 (tAt m.x k).i) := cell_stays hb1 (by simp))
                  have hlast : txOk m k := by
                    have h8 := HX.out
                    refine ⟨?_, by omega, fun hz => ?_, by omega, by omega, h7⟩
                    · by_cases hz : k = 0
                      · rw [if_pos hz] at h8; omega
                      · rw [if_neg hz] at h8; have := (hs (k - 1) (by omega)).1; omega
                    · rw [if_neg (by omega)] at h8; omega
                  go_roundw
                  case rel => exact ⟨k + 1, by omega, by go_num, by simp, hBA.trans (hb1.mono hBA.size), (hbox.stays hA).stays hb1, upto_succ hs hlast⟩
                  case measure => simp [intOf]; omega
                · go_wp2_with (go_at_call 139; refine (writesOk_any _ _ _ (c3.stays hA)).mono ?_; rintro e w1 ⟨⟨q, rfl, hq⟩, hb1⟩; obtain rfl := says_false hq h7; clear hq)
                  go_ret
                  exact ⟨says_no fun h => h7 (h.2 k hlt).2.2.2.2.2, hBA.trans (hb1.mono hBA.size)⟩
      · go_wp2
        go_ret
        exact ⟨says_yes ⟨by omega, fun j hj => hs j (by omega)⟩, hb⟩

theorem implStoreOk_yes (v : Value) (l : List Ch) (w : World) {lo hi : Nat} (h : ChainsAt lo hi w v l) (ho : storeOk l) : Calls Tryz.prog 105 #[.agg #[v]] w fun e w' => e = .returned (.bool true) ∧ Below w.heap.size w w' := by
  refine (implStoreOk_any v l w h).mono ?_
  rintro e w' ⟨⟨q, rfl, hq⟩, hb⟩
  obtain rfl := hq.2 ho
  exact ⟨rfl, hb⟩
theorem implStoreOk_no (v : Value) (l : List Ch) (w : World) {lo hi : Nat} (h : ChainsAt lo hi w v l) (ho : ¬ storeOk l) : Calls Tryz.prog 105 #[.agg #[v]] w fun e w' => e = .returned (.bool false) ∧ Below w.heap.size w w' := by
  refine (implStoreOk_any v l w h).mono ?_
  rintro e w' ⟨⟨q, rfl, hq⟩, hb⟩
  obtain rfl := says_false hq ho
  exact ⟨rfl, hb⟩
theorem txsOk_yes (vs vt ve : Value) (m : Md) (w : World) {lo hi : Nat} (h : TxsAt lo hi w vt m.x) (ho : txsOk m) : Calls Tryz.prog 108 #[.agg #[vs, .int .i64 m.c, .int .i64 m.n, vt, ve]] w fun e w' => e = .returned (.bool true) ∧ Below w.heap.size w w' := by
  refine (txsOk_any vs vt ve m w h).mono ?_
  rintro e w' ⟨⟨q, rfl, hq⟩, hb⟩
  obtain rfl := hq.2 ho
  exact ⟨rfl, hb⟩
theorem txsOk_no (vs vt ve : Value) (m : Md) (w : World) {lo hi : Nat} (h : TxsAt lo hi w vt m.x) (ho : ¬ txsOk m) : Calls Tryz.prog 108 #[.agg #[vs, .int .i64 m.c, .int .i64 m.n, vt, ve]] w fun e w' => e = .returned (.bool false) ∧ Below w.heap.size w w' := by
  refine (txsOk_any vs vt ve m w h).mono ?_
  rintro e w' ⟨⟨q, rfl, hq⟩, hb⟩
  obtain rfl := says_false hq ho
  exact ⟨rfl, hb⟩

end Go.Proofs.YtmecbppblbmchaaGreatDoor

/- impl.copyMgr: a copy of the whole that is owned, behind a pointer. -/
namespace Go.Proofs.YtmecbppblbmchaaGreatDoor
open Go.ChangeShapes Go.WideShapes Go.ChangeAt Go.RowKit Go.Maps Go.Sort
set_option linter.unusedVariables false
set_option maxRecDepth 100000
attribute [local go_sem ↓] Go.wp_at_zero Go.wp_at_succ

/-- n elements of six cells. -/
def hexa (l : List Ed) : List Value := l.flatMap fun x => [.int .i64 x.k, .int .i64 x.x, .int .i64 x.t, .int .i64 x.r, .int .i64 x.v, .int .i64 x.a]
theorem hexa_length (l : List Ed) : (hexa l).length = l.length * 6 := by
  induction l with
  | nil => rfl
  | cons x l ih => simp only [hexa, List.flatMap_cons, List.length_append, List.length_cons] at *; rw [ih]; simp; omega
theorem hexa_get : ∀ (l : List Ed) (i : Nat), i < l.length → (hexa l)[i * 6]? = some (.int .i64 (eAt l i).k) ∧ (hexa l)[i * 6 + 1]? = some (.int .i64 (eAt l i).x) ∧ (hexa l)[i * 6 + 2]? = some (.int .i64 (eAt l i).t) ∧ (hexa l)[i * 6 + 3]? = some (.int .i64 (eAt l i).r) ∧ (hexa l)[i * 6 + 4]? = some (.int .i64 (eAt l i).v) ∧ (hexa l)[i * 6 + 5]? = some (.int .i64 (eAt l i).a)
  | [], i, h => absurd h (Nat.not_lt_zero _)
  | x :: l, 0, h => by simp [hexa, eAt]
  | x :: l, i + 1, h => by
    obtain ⟨h0, h1, h2, h3, h4, h5⟩ := hexa_get l i (by simpa using h)
    have e : hexa (x :: l) = [.int .i64 x.k, .int .i64 x.x, .int .i64 x.t, .int .i64 x.r, .int .i64 x.v, .int .i64 x.a] ++ hexa l := by simp [hexa]
    have ee : eAt (x :: l) (i + 1) = eAt l i := by simp [eAt]
    rw [e, ee]
    refine ⟨?_, ?_, ?_, ?_, ?_, ?_⟩
    · rw [List.getElem?_append_right (by simp; omega), show (i + 1) * 6 - _ = i * 6 by simp; omega]; exact h0
    · rw [List.getElem?_append_right (by simp; omega), show (i + 1) * 6 + 1 - _ = i * 6 + 1 by simp; omega]; exact h1
    · rw [List.getElem?_append_right (by simp; omega), show (i + 1) * 6 + 2 - _ = i * 6 + 2 by simp; omega]; exact h2
    · rw [List.getElem?_append_right (by simp; omega), show (i + 1) * 6 + 3 - _ = i * 6 + 3 by simp; omega]; exact h3
    · rw [List.getElem?_append_right (by simp; omega), show (i + 1) * 6 + 4 - _ = i * 6 + 4 by simp; omega]; exact h4
    · rw [List.getElem?_append_right (by simp; omega), show (i + 1) * 6 + 5 - _ = i * 6 + 5 by simp; omega]; exact h5
theorem hexa_one (l : List Ed) : ∀ v ∈ hexa l, v.oneCell' = true := by
  intro v hv
  simp [hexa] at hv
  obtain ⟨x, _, h⟩ := hv
  rcases h with rfl | rfl | rfl | rfl | rfl | rfl <;> rfl

theorem EvsAt.cells {lo hi : Nat} {w : World} {a : Option Addr} {cap : Nat} {l : List Ed} (h : EvsAt lo hi w (.slice a l.length cap) l) : CellsAt w a l.length (hexa l) := fun hp => by
  obtain ⟨a', cap', e, hm, hc⟩ := h
  injection e with e1 e2 e3
  subst e1
  obtain ⟨b, off, rfl, _, _, hcc⟩ := hc hp
  refine ⟨b, off, rfl, fun j v hj => ?_⟩
  have hjl : j < l.length * 6 := by rw [← hexa_length]; exact (List.getElem?_eq_some_iff.1 hj).1
  obtain ⟨g0, g1, g2, g3, g4, g5⟩ := hexa_get l (j / 6) (by omega)
  obtain ⟨k0, k1, k2, k3, k4, k5⟩ := hcc (j / 6) (by omega)
  have h6 : j % 6 = 0 ∨ j % 6 = 1 ∨ j % 6 = 2 ∨ j % 6 = 3 ∨ j % 6 = 4 ∨ j % 6 = 5 := by omega
  rcases h6 with e | e | e | e | e | e
  · rw [show j = j / 6 * 6 by omega] at hj ⊢
    rw [g0] at hj; cases hj; exact k0
  · rw [show j = j / 6 * 6 + 1 by omega] at hj ⊢
    rw [g1] at hj; cases hj; exact k1
  · rw [show j = j / 6 * 6 + 2 by omega] at hj ⊢
    rw [g2] at hj; cases hj; exact k2
  · rw [show j = j / 6 * 6 + 3 by omega] at hj ⊢
    rw [g3] at hj; cases hj; exact k3
  · rw [show j = j / 6 * 6 + 4 by omega] at hj ⊢
    rw [g4] at hj; cases hj; exact k4
  · rw [show j = j / 6 * 6 + 5 by omega] at hj ⊢
    rw [g5] at hj; cases hj; exact k5

theorem evs_block {lo hi : Nat} {w : World} {a : Option Addr} {cap : Nat} {l : List Ed} (h : EvsAt lo hi w (.slice a l.length cap) l) (hn : l.length ≤ 1048576) :
    Calls Tryz.prog 67 #[.slice a l.length cap] w fun e w' => e = .returned (.slice (some ⟨w.heap.size, 0, none⟩) l.length l.length) ∧ OwnE w' w.heap.size l ∧ Below w.heap.size w w' := by
  refine (copyEv_block a l.length cap (hexa l) w hn (hexa_length l) (hexa_one l) h.cells).mono ?_
  rintro e w' ⟨rfl, hB, hb⟩
  have hr := RowOf.of_cells hB
  rw [hexa_length] at hr
  refine ⟨rfl, ⟨_, hr, fun i hi => ?_⟩, hb⟩
  obtain ⟨g0, g1, g2, g3, g4, g5⟩ := hexa_get l i hi
  simp [List.getD, g0, g1, g2, g3, g4, g5]

theorem rows_block {lo hi : Nat} {w : World} {a : Option Addr} {cap : Nat} {l : List Rw} (h : RowsAt lo hi w (.slice a l.length cap) l) (hn : l.length ≤ 1048576) :
    Calls Tryz.prog 68 #[.slice a l.length cap] w fun e w' => e = .returned (.slice (some ⟨w.heap.size, 0, none⟩) l.length l.length) ∧ OwnW w' w.heap.size l ∧ Below w.heap.size w w' := by
  have hc : CellsAt w a l.length (tri l.length (fun i => .int .i64 (rAt l i).t) (fun i => .int .i64 (rAt l i).r) (fun i => .int .i64 (rAt l i).v)) := fun hp => by
    obtain ⟨a', cap', e, hm, hc⟩ := h
    injection e with e1 e2 e3
    subst e1
    obtain ⟨b, off, rfl, _, _, hcc⟩ := hc hp
    exact ⟨b, off, rfl, tri_cells hcc⟩
  refine (copyRow_block a l.length cap _ w hn (tri_length _ _ _ _) (tri_one fun i hi => ⟨rfl, rfl, rfl⟩) hc).mono ?_
  rintro e w' ⟨rfl, hB, hb⟩
  have hr := RowOf.of_cells hB
  rw [tri_length] at hr
  refine ⟨rfl, ⟨_, hr, fun i hi => ?_⟩, hb⟩
  obtain ⟨g0, g1, g2⟩ := tri_get (fun i => Value.int IntKind.i64 (rAt l i).t) (fun i => Value.int IntKind.i64 (rAt l i).r) (fun i => Value.int IntKind.i64 (rAt l i).v) l.length i hi
  simp only [List.getD, g0, g1, g2, Option.getD_some]
  exact ⟨trivial, trivial, trivial⟩

end Go.Proofs.YtmecbppblbmchaaGreatDoor
