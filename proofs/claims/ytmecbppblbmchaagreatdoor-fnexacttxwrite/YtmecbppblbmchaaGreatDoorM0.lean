import Derived.Test.YtmecbppblbmchaaGreatDoorMOk
import Derived.Test.YtmecbppblbmchaaGreatDoorCopyS
import Derived.Test.YtmecbppblbmchaaGreatDoorOwnTs
import Derived.Test.YtmecbppblbmchaaGreatDoorLastV
import Derived.Test.YtmecbppblbmchaaGreatDoorOwnQ
/- The program's MgrOk. -/
namespace Go.Proofs.YtmecbppblbmchaaGreatDoor
open Go.ChangeShapes Go.WideShapes Go.ChangeAt Go.RowKit Go.Sort
set_option linter.unusedVariables false
set_option maxRecDepth 100000
attribute [local go_sem ↓] Go.wp_at_zero Go.wp_at_succ

/-- The box of a state: what is read of it. -/
structure MBox (w : World) (b : Nat) (vs : Value) (c n : Int) (vt ve : Value) : Prop where
  s : w.cell? ⟨b, 0, none⟩ = some vs
  c : w.cell? ⟨b, 1, none⟩ = some (.int .i64 c)
  n : w.cell? ⟨b, 2, none⟩ = some (.int .i64 n)
  x : w.cell? ⟨b, 3, none⟩ = some vt
  h : w.cell? ⟨b, 4, none⟩ = some ve
theorem MBox.stays {w w' : World} {b : Nat} {vs : Value} {c n : Int} {vt ve : Value} (h : MBox w b vs c n vt ve) (hb : Below w.heap.size w w') : MBox w' b vs c n vt ve :=
  ⟨cell_stays hb h.s, cell_stays hb h.c, cell_stays hb h.n, cell_stays hb h.x, cell_stays hb h.h⟩
theorem MBox.new (w : World) (vs : Value) (c n : Int) (vt ve : Value) (T : TypeId) : MBox (w.alloc (Obj.cells #[vs, .int .i64 c, .int .i64 n, vt, ve] T)) w.heap.size vs c n vt ve := ⟨by simp, by simp, by simp, by simp, by simp⟩

set_option maxHeartbeats 1000000 in
theorem txsOk_any (vs vt ve : Value) (m : Md) (w : World) {lo hi : Nat} (h : TxsAt lo hi w vt m.x) :
    Calls Tryz.prog 108 #[.agg #[vs, .int .i64 m.c, .int .i64 m.n, vt, ve]] w fun e w' => Says e (txsOk m) ∧ Below w.heap.size w w' := by
  obtain ⟨a, cap, rfl, hm, hc⟩ := h
  unfold maxLen at hm
  have hbx : Below w.heap.size w (w.alloc (Obj.cells #[vs, .int .i64 m.c, .int .i64 m.n, Value.slice a m.x.length cap, ve] 36)) := (Below.refl _ _).alloc (Nat.le_refl _) _
  by_cases h2 : 8 < m.x.length
  · clear hc
    go_enter Tryz.func108, Tryz.ntmps108
    go_wp2
    go_ret
    exact ⟨says_no fun h => by have := h.1; omega, hbx⟩
  · go_enter Tryz.func108, Tryz.ntmps108
    go_wp2
    go_loopw [3, 13] (fun x i wr => ∃ k : Nat, k ≤ m.x.length ∧ i = .int .i64 k ∧ x = .int .i64 (if k = 0 then 0 else (tAt m.x (k - 1)).i) ∧ Below w.heap.size w wr ∧ MBox wr w.heap.size vs m.c m.n (.slice a m.x.length cap) ve ∧ ∀ j, j < k → txOk m j) (fun _ i _ => m.x.length - (intOf i).toNat)
    case atStart => exact ⟨0, Nat.zero_le _, rfl, rfl, hbx, MBox.new _ _ _ _ _ _ _, fun j hj => absurd hj (Nat.not_lt_zero _)⟩
    case round =>
      rename World => wo
      obtain ⟨k, hk, rfl, rfl, hb, hbox, hs⟩ := hrel
      generalize hx : (if k = 0 then (0 : Int) else (tAt m.x (k - 1)).i) = x
      have HX : Hid ((if k = 0 then (0 : Int) else (tAt m.x (k - 1)).i) = x) := hx
      clear hx
      by_cases hlt : k < m.x.length
      · obtain ⟨b, off, rfl, hlo, hhi, hcc⟩ := hc (by omega)
        obtain ⟨c0, c1, ca, cb, c2, c3⟩ := hcc k hlt
        replace c0 := cell_stays hb c0
        replace c1 := cell_stays hb c1
        replace c2 := cell_stays hb c2
        replace c3 := c3.stays hb
        have i0 : (0 : Int) ≤ (k : Int) := by omega
        have i1 : (k : Int) < (m.x.length : Int) := by omega
        have q1 := hbox.c
        have q2 := hbox.n
        clear hc hcc
        have hA : Below wo.heap.size wo (wo.alloc (Obj.cells #[Value.int IntKind.i64 (tAt m.x k).i, Value.int IntKind.i64 (tAt m.x k).s, Value.slice ca (tAt m.x k).w.length cb] 97)) := (Below.refl _ _).alloc (Nat.le_refl _) _
        have hBA := hb.trans (hA.mono hb.size)
        have q1' := cell_stays hA q1
        have q2' := cell_stays hA q2
        have hprev : ∀ y, txOk m k → y ≤ x → y < (tAt m.x k).i := fun y hy hle => by
          have h5 := HX.out
          by_cases hz : k = 0
          · rw [if_pos hz] at h5; have := hy.1; omega
          · rw [if_neg hz] at h5; have := hy.2.2.1 (by omega); omega
        by_cases h3 : (tAt m.x k).i ≤ x
        · go_wp2_with fail
          go_ret
          exact ⟨says_no fun h => by have := hprev _ (h.2 k hlt) h3; omega, hBA⟩
        · by_cases h4 : m.n ≤ (tAt m.x k).i
          · go_wp2_with fail
            go_ret
            exact ⟨says_no fun h => by have := (h.2 k hlt).2.1; omega, hBA⟩
          · by_cases h5 : (tAt m.x k).s < 0
            · go_wp2_with fail
              go_ret
              exact ⟨says_no fun h => by have := (h.2 k hlt).2.2.2.1; omega, hBA⟩
            · by_cases h6 : m.c < (tAt m.x k).s
              · go_wp2_with fail
                go_ret
                exact ⟨says_no fun h => by have := (h.2 k hlt).2.2.2.2.1; omega, hBA⟩
              · by_cases h7 : rowsOk (tAt m.x k).w
                · go_wp2_with (go_at_call 139; refine (writesOk_any _ _ _ (c3.stays hA)).mono ?_; rintro e w1 ⟨⟨q, rfl, hq⟩, hb1⟩; obtain rfl := hq.2 h7; clear hq; have r0 : w1.cell? ⟨wo.heap.size, 0, none⟩ = some (.int .i64 (tAt m.x k).i) := cell_stays hb1 (by simp))
                  have hlast : txOk m k := by
                    have h8 := HX.out
                    refine ⟨?_, by omega, fun hz => ?_, by omega, by omega, h7⟩
                    · by_cases hz : k = 0
                      · rw [if_pos hz] at h8; omega
                      · rw [if_neg hz] at h8; have := (hs (k - 1) (by omega)).1; omega
                    · rw [if_neg (by omega)] at h8; omega
                  go_roundw
                  case rel => exact ⟨k + 1, by omega, by go_num, by simp, hBA.trans (hb1.mono hBA.size), (hbox.stays hA).stays hb1, upto_succ hs hlast⟩
                  case measure => simp [intOf]; omega
                · go_wp2_with (go_at_call 139; refine (writesOk_any _ _ _ (c3.stays hA)).mono ?_; rintro e w1 ⟨⟨q, rfl, hq⟩, hb1⟩; obtain rfl := says_false hq h7; clear hq)
                  go_ret
                  exact ⟨says_no fun h => h7 (h.2 k hlt).2.2.2.2.2, hBA.trans (hb1.mono hBA.size)⟩
      · go_wp2
        go_ret
        exact ⟨says_yes ⟨by omega, fun j hj => hs j (by omega)⟩, hb⟩

theorem implStoreOk_yes (v : Value) (l : List Ch) (w : World) {lo hi : Nat} (h : ChainsAt lo hi w v l) (ho : storeOk l) : Calls Tryz.prog 105 #[.agg #[v]] w fun e w' => e = .returned (.bool true) ∧ Below w.heap.size w w' := by
  refine (implStoreOk_any v l w h).mono ?_
  rintro e w' ⟨⟨q, rfl, hq⟩, hb⟩
  obtain rfl := hq.2 ho
  exact ⟨rfl, hb⟩
theorem implStoreOk_no (v : Value) (l : List Ch) (w : World) {lo hi : Nat} (h : ChainsAt lo hi w v l) (ho : ¬ storeOk l) : Calls Tryz.prog 105 #[.agg #[v]] w fun e w' => e = .returned (.bool false) ∧ Below w.heap.size w w' := by
  refine (implStoreOk_any v l w h).mono ?_
  rintro e w' ⟨⟨q, rfl, hq⟩, hb⟩
  obtain rfl := says_false hq ho
  exact ⟨rfl, hb⟩
theorem txsOk_yes (vs vt ve : Value) (m : Md) (w : World) {lo hi : Nat} (h : TxsAt lo hi w vt m.x) (ho : txsOk m) : Calls Tryz.prog 108 #[.agg #[vs, .int .i64 m.c, .int .i64 m.n, vt, ve]] w fun e w' => e = .returned (.bool true) ∧ Below w.heap.size w w' := by
  refine (txsOk_any vs vt ve m w h).mono ?_
  rintro e w' ⟨⟨q, rfl, hq⟩, hb⟩
  obtain rfl := hq.2 ho
  exact ⟨rfl, hb⟩
theorem txsOk_no (vs vt ve : Value) (m : Md) (w : World) {lo hi : Nat} (h : TxsAt lo hi w vt m.x) (ho : ¬ txsOk m) : Calls Tryz.prog 108 #[.agg #[vs, .int .i64 m.c, .int .i64 m.n, vt, ve]] w fun e w' => e = .returned (.bool false) ∧ Below w.heap.size w w' := by
  refine (txsOk_any vs vt ve m w h).mono ?_
  rintro e w' ⟨⟨q, rfl, hq⟩, hb⟩
  obtain rfl := says_false hq ho
  exact ⟨rfl, hb⟩

end Go.Proofs.YtmecbppblbmchaaGreatDoor

/- impl.copyMgr: a copy of the whole that is owned, behind a pointer. -/
namespace Go.Proofs.YtmecbppblbmchaaGreatDoor
open Go.ChangeShapes Go.WideShapes Go.ChangeAt Go.RowKit Go.Maps Go.Sort
set_option linter.unusedVariables false
set_option maxRecDepth 100000
attribute [local go_sem ↓] Go.wp_at_zero Go.wp_at_succ

/-- n elements of six cells. -/
def hexa (l : List Ed) : List Value := l.flatMap fun x => [.int .i64 x.k, .int .i64 x.x, .int .i64 x.t, .int .i64 x.r, .int .i64 x.v, .int .i64 x.a]
theorem hexa_length (l : List Ed) : (hexa l).length = l.length * 6 := by
  induction l with
  | nil => rfl
  | cons x l ih => simp only [hexa, List.flatMap_cons, List.length_append, List.length_cons] at *; rw [ih]; simp; omega
theorem hexa_get : ∀ (l : List Ed) (i : Nat), i < l.length → (hexa l)[i * 6]? = some (.int .i64 (eAt l i).k) ∧ (hexa l)[i * 6 + 1]? = some (.int .i64 (eAt l i).x) ∧ (hexa l)[i * 6 + 2]? = some (.int .i64 (eAt l i).t) ∧ (hexa l)[i * 6 + 3]? = some (.int .i64 (eAt l i).r) ∧ (hexa l)[i * 6 + 4]? = some (.int .i64 (eAt l i).v) ∧ (hexa l)[i * 6 + 5]? = some (.int .i64 (eAt l i).a)
  | [], i, h => absurd h (Nat.not_lt_zero _)
  | x :: l, 0, h => by simp [hexa, eAt]
  | x :: l, i + 1, h => by
    obtain ⟨h0, h1, h2, h3, h4, h5⟩ := hexa_get l i (by simpa using h)
    have e : hexa (x :: l) = [.int .i64 x.k, .int .i64 x.x, .int .i64 x.t, .int .i64 x.r, .int .i64 x.v, .int .i64 x.a] ++ hexa l := by simp [hexa]
    have ee : eAt (x :: l) (i + 1) = eAt l i := by simp [eAt]
    rw [e, ee]
    refine ⟨?_, ?_, ?_, ?_, ?_, ?_⟩
    · rw [List.getElem?_append_right (by simp; omega), show (i + 1) * 6 - _ = i * 6 by simp; omega]; exact h0
    · rw [List.getElem?_append_right (by simp; omega), show (i + 1) * 6 + 1 - _ = i * 6 + 1 by simp; omega]; exact h1
    · rw [List.getElem?_append_right (by simp; omega), show (i + 1) * 6 + 2 - _ = i * 6 + 2 by simp; omega]; exact h2
    · rw [List.getElem?_append_right (by simp; omega), show (i + 1) * 6 + 3 - _ = i * 6 + 3 by simp; omega]; exact h3
    · rw [List.getElem?_append_right (by simp; omega), show (i + 1) * 6 + 4 - _ = i * 6 + 4 by simp; omega]; exact h4
    · rw [List.getElem?_append_right (by simp; omega), show (i + 1) * 6 + 5 - _ = i * 6 + 5 by simp; omega]; exact h5
theorem hexa_one (l : List Ed) : ∀ v ∈ hexa l, v.oneCell' = true := by
  intro v hv
  simp [hexa] at hv
  obtain ⟨x, _, h⟩ := hv
  rcases h with rfl | rfl | rfl | rfl | rfl | rfl <;> rfl

theorem EvsAt.cells {lo hi : Nat} {w : World} {a : Option Addr} {cap : Nat} {l : List Ed} (h : EvsAt lo hi w (.slice a l.length cap) l) : CellsAt w a l.length (hexa l) := fun hp => by
  obtain ⟨a', cap', e, hm, hc⟩ := h
  injection e with e1 e2 e3
  subst e1
  obtain ⟨b, off, rfl, _, _, hcc⟩ := hc hp
  refine ⟨b, off, rfl, fun j v hj => ?_⟩
  have hjl : j < l.length * 6 := by rw [← hexa_length]; exact (List.getElem?_eq_some_iff.1 hj).1
  obtain ⟨g0, g1, g2, g3, g4, g5⟩ := hexa_get l (j / 6) (by omega)
  obtain ⟨k0, k1, k2, k3, k4, k5⟩ := hcc (j / 6) (by omega)
  have h6 : j % 6 = 0 ∨ j % 6 = 1 ∨ j % 6 = 2 ∨ j % 6 = 3 ∨ j % 6 = 4 ∨ j % 6 = 5 := by omega
  rcases h6 with e | e | e | e | e | e
  · rw [show j = j / 6 * 6 by omega] at hj ⊢
    rw [g0] at hj; cases hj; exact k0
  · rw [show j = j / 6 * 6 + 1 by omega] at hj ⊢
    rw [g1] at hj; cases hj; exact k1
  · rw [show j = j / 6 * 6 + 2 by omega] at hj ⊢
    rw [g2] at hj; cases hj; exact k2
  · rw [show j = j / 6 * 6 + 3 by omega] at hj ⊢
    rw [g3] at hj; cases hj; exact k3
  · rw [show j = j / 6 * 6 + 4 by omega] at hj ⊢
    rw [g4] at hj; cases hj; exact k4
  · rw [show j = j / 6 * 6 + 5 by omega] at hj ⊢
    rw [g5] at hj; cases hj; exact k5

theorem evs_block {lo hi : Nat} {w : World} {a : Option Addr} {cap : Nat} {l : List Ed} (h : EvsAt lo hi w (.slice a l.length cap) l) (hn : l.length ≤ 1048576) :
    Calls Tryz.prog 67 #[.slice a l.length cap] w fun e w' => e = .returned (.slice (some ⟨w.heap.size, 0, none⟩) l.length l.length) ∧ OwnE w' w.heap.size l ∧ Below w.heap.size w w' := by
  refine (copyEv_block a l.length cap (hexa l) w hn (hexa_length l) (hexa_one l) h.cells).mono ?_
  rintro e w' ⟨rfl, hB, hb⟩
  have hr := RowOf.of_cells hB
  rw [hexa_length] at hr
  refine ⟨rfl, ⟨_, hr, fun i hi => ?_⟩, hb⟩
  obtain ⟨g0, g1, g2, g3, g4, g5⟩ := hexa_get l i hi
  simp [List.getD, g0, g1, g2, g3, g4, g5]

theorem rows_block {lo hi : Nat} {w : World} {a : Option Addr} {cap : Nat} {l : List Rw} (h : RowsAt lo hi w (.slice a l.length cap) l) (hn : l.length ≤ 1048576) :
    Calls Tryz.prog 68 #[.slice a l.length cap] w fun e w' => e = .returned (.slice (some ⟨w.heap.size, 0, none⟩) l.length l.length) ∧ OwnW w' w.heap.size l ∧ Below w.heap.size w w' := by
  have hc : CellsAt w a l.length (tri l.length (fun i => .int .i64 (rAt l i).t) (fun i => .int .i64 (rAt l i).r) (fun i => .int .i64 (rAt l i).v)) := fun hp => by
    obtain ⟨a', cap', e, hm, hc⟩ := h
    injection e with e1 e2 e3
    subst e1
    obtain ⟨b, off, rfl, _, _, hcc⟩ := hc hp
    exact ⟨b, off, rfl, tri_cells hcc⟩
  refine (copyRow_block a l.length cap _ w hn (tri_length _ _ _ _) (tri_one fun i hi => ⟨rfl, rfl, rfl⟩) hc).mono ?_
  rintro e w' ⟨rfl, hB, hb⟩
  have hr := RowOf.of_cells hB
  rw [tri_length] at hr
  refine ⟨rfl, ⟨_, hr, fun i hi => ?_⟩, hb⟩
  obtain ⟨g0, g1, g2⟩ := tri_get (fun i => Value.int IntKind.i64 (rAt l i).t) (fun i => Value.int IntKind.i64 (rAt l i).r) (fun i => Value.int IntKind.i64 (rAt l i).v) l.length i hi
  simp only [List.getD, g0, g1, g2, Option.getD_some]
  exact ⟨trivial, trivial, trivial⟩

end Go.Proofs.YtmecbppblbmchaaGreatDoor

/- A state of the whole that a call has made: each list in a block of its own, free to be written, with whatever room; and the variable that holds it. -/
namespace Go.Proofs.YtmecbppblbmchaaGreatDoor
open Go.ChangeShapes Go.WideShapes Go.ChangeAt Go.RowKit Go.Sort
set_option linter.unusedVariables false
set_option maxRecDepth 100000

/-- What the transactions' own row holds. -/
def txc (l : List Td) (wv : Nat → Value) : List Value := tri l.length (fun i => .int .i64 (tAt l i).i) (fun i => .int .i64 (tAt l i).s) wv
/-- The lists of a state, but for the store's. -/
def mv (vt ve : Value) (wv : Nat → Value) : Nat → Value
  | 0 => vt
  | 1 => ve
  | i + 2 => wv i
/-- A state that a call owns; the store's blocks are s0 .. s1. -/
structure OwnM (base : Nat) (w : World) (s0 s1 : Nat) (vs vt ve : Value) (m : Md) (wv : Nat → Value) : Prop where
  s : OwnT s0 s1 w vs m.s
  sb : base ≤ s0 ∧ s0 ≤ s1 ∧ s1 ≤ w.heap.size
  x : w.ownsRow base 97 3 vt m.x.length (txc m.x wv)
  xw : ∀ i, i < m.x.length → w.ownsRow base 111 3 (wv i) (tAt m.x i).w.length (flat (tAt m.x i).w)
  h : w.ownsRow base 101 6 ve m.h.length (hexa m.h)
  far : ∀ a, a < m.x.length + 2 → ∀ g, (mv vt ve wv a).ownBlock = some g → g < s0 ∨ s1 ≤ g
  apart : ∀ a b, a < m.x.length + 2 → b < m.x.length + 2 → a ≠ b → ∀ g, (mv vt ve wv a).ownBlock = some g → (mv vt ve wv b).ownBlock ≠ some g

theorem owns_keepM {w w' : World} {base : Nat} {e : TypeId} {size : Nat} {v : Value} {n : Nat} {xs : List Value} (h : w.ownsRow base e size v n xs) (hk : ∀ g, v.ownBlock = some g → g < w.heap.size → w'.heap[g]? = w.heap[g]?) : w'.ownsRow base e size v n xs := by
  obtain ⟨h1, h2⟩ := h
  refine ⟨h1, ?_⟩
  rcases h2 with h2 | ⟨g, cap, cur, rfl, hg, hh, r⟩
  · exact .inl h2
  · exact .inr ⟨g, cap, cur, rfl, hg, by rw [hk g rfl (Array.getElem?_eq_some_iff.1 hh).1]; exact hh, r⟩
theorem owns_ltM {w : World} {base : Nat} {e : TypeId} {size : Nat} {v : Value} {n : Nat} {xs : List Value} (h : w.ownsRow base e size v n xs) {g : Nat} (hg : v.ownBlock = some g) : base ≤ g ∧ g < w.heap.size := h.lt g hg
theorem owns_sliceM {w : World} {base : Nat} {e : TypeId} {size : Nat} {v : Value} {n : Nat} {xs : List Value} (h : w.ownsRow base e size v n xs) : ∃ a c, v = .slice a n c := by
  rcases h.2 with ⟨rfl, rfl⟩ | ⟨g, cap, cur, rfl, _⟩
  · exact ⟨_, _, rfl⟩
  · exact ⟨_, _, rfl⟩
/-- A cell of an owned row. -/
theorem owns_cell {w : World} {base : Nat} {e : TypeId} {size : Nat} {a : Option Addr} {c n : Nat} {xs : List Value} (h : w.ownsRow base e size (.slice a n c) n xs) {j : Nat} {u : Value} (hu : xs[j]? = some u) : ∃ g, a = some ⟨g, 0, none⟩ ∧ base ≤ g ∧ w.cell? ⟨g, j, none⟩ = some u ∧ w.frozen? ⟨g, j, none⟩ = false := by
  have hj : j < n * size := by rw [← h.1]; exact (List.getElem?_eq_some_iff.1 hu).1
  rcases h.2 with ⟨_, rfl⟩ | ⟨g, cap, cur, e1, hg, hh, hnc, _, hsz, hx⟩
  · omega
  · injection e1 with e2 e3 e4
    subst e2
    refine ⟨g, rfl, hg, ?_, by simp [World.frozen?, hh]⟩
    have hjs : j < cur.size := by
      have := Nat.mul_le_mul_right size hnc
      omega
    have : cur.toList[j]? = some u := by
      rw [← hx, List.getElem?_take] at hu
      simpa [hj] using hu
    simp only [World.cell?, hh]
    simpa using this
/-- A cell of an owned row is written. -/
theorem owns_set {w : World} {base : Nat} {e : TypeId} {size g c n : Nat} {xs : List Value} (h : w.ownsRow base e size (.slice (some ⟨g, 0, none⟩) n c) n xs) (j : Nat) (u : Value) (hj : j < n * size) : (w.setCell ⟨g, j, none⟩ u).ownsRow base e size (.slice (some ⟨g, 0, none⟩) n c) n (xs.set j u) := by
  refine ⟨by simpa using h.1, ?_⟩
  rcases h.2 with ⟨e1, _⟩ | ⟨g', cap, cur, e1, hg, hh, hnc, hcm, hsz, hx⟩
  · cases e1
  · injection e1 with e2 e3 e4
    injection e2 with e2
    injection e2 with e5
    subst e5 e4
    refine .inr ⟨g, c, cur.setIfInBounds j u, rfl, hg, ?_, hnc, hcm, by simpa using hsz, ?_⟩
    · simp [World.setCell, Array.getElem?_modify, hh]
    · rw [← hx]
      simp only [Array.toList_setIfInBounds]
      rw [List.take_set]
theorem owns_new {w : World} {g : Nat} {e : TypeId} {cs : List Value} {n k base : Nat} (h : w.heap[g]? = some (.cells cs.toArray e (0, 0))) (hl : cs.length = n * k) (hn : n ≤ maxLen) (hb : base ≤ g) : w.ownsRow base e k (.slice (some ⟨g, 0, none⟩) n n) n cs :=
  ⟨hl, .inr ⟨g, n, cs.toArray, rfl, hb, h, Nat.le_refl _, hn, by simpa using hl, by rw [List.take_of_length_le (by simp; omega)]⟩⟩

theorem OwnM.keep {base s0 s1 : Nat} {w w' : World} {vs vt ve : Value} {m : Md} {wv : Nat → Value} (h : OwnM base w s0 s1 vs vt ve m wv) (hk : ∀ k, base ≤ k → k < w.heap.size → w'.heap[k]? = w.heap[k]?) (hz : w.heap.size ≤ w'.heap.size) : OwnM base w' s0 s1 vs vt ve m wv where
  s := h.s.keep fun k h1 h2 h3 => hk k (by have := h.sb; omega) h3
  sb := ⟨h.sb.1, h.sb.2.1, by have := h.sb; omega⟩
  x := owns_keepM h.x fun g hg hl => hk g (owns_ltM h.x hg).1 hl
  xw := fun i hi => owns_keepM (h.xw i hi) fun g hg hl => hk g (owns_ltM (h.xw i hi) hg).1 hl
  h := owns_keepM h.h fun g hg hl => hk g (owns_ltM h.h hg).1 hl
  far := h.far
  apart := h.apart
theorem OwnM.stays {base s0 s1 : Nat} {w w' : World} {vs vt ve : Value} {m : Md} {wv : Nat → Value} (h : OwnM base w s0 s1 vs vt ve m wv) (hb : Below w.heap.size w w') : OwnM base w' s0 s1 vs vt ve m wv := h.keep (fun k _ hl => hb.block k hl) hb.size

theorem rows_ofOwns {w : World} {base : Nat} {v : Value} {l : List Rw} (h : w.ownsRow base 111 3 v l.length (flat l)) (hn : l.length ≤ 1048580) : RowsAt base w.heap.size w v l := by
  obtain ⟨a, c, rfl⟩ := owns_sliceM h
  refine ⟨a, c, rfl, by unfold maxLen; omega, fun hp => ?_⟩
  obtain ⟨g, rfl, hb, hc, _⟩ := owns_cell h (flat_get l 0 hp).1
  refine ⟨g, 0, rfl, hb, cell_lt hc, fun i hi => ?_⟩
  obtain ⟨f0, f1, f2⟩ := flat_get l i hi
  obtain ⟨g0, e0, _, c0, _⟩ := owns_cell h f0
  obtain ⟨g1, e1, _, c1, _⟩ := owns_cell h f1
  obtain ⟨g2, e2, _, c2, _⟩ := owns_cell h f2
  cases e0; cases e1; cases e2
  exact ⟨by simpa using c0, by simpa using c1, by simpa using c2⟩
theorem evs_ofOwns {w : World} {base : Nat} {v : Value} {l : List Ed} (h : w.ownsRow base 101 6 v l.length (hexa l)) (hn : l.length ≤ 1048580) : EvsAt base w.heap.size w v l := by
  obtain ⟨a, c, rfl⟩ := owns_sliceM h
  refine ⟨a, c, rfl, by unfold maxLen; omega, fun hp => ?_⟩
  obtain ⟨g, rfl, hb, hc, _⟩ := owns_cell h (hexa_get l 0 hp).1
  refine ⟨g, 0, rfl, hb, cell_lt hc, fun i hi => ?_⟩
  obtain ⟨f0, f1, f2, f3, f4, f5⟩ := hexa_get l i hi
  obtain ⟨g0, e0, _, c0, _⟩ := owns_cell h f0
  obtain ⟨g1, e1, _, c1, _⟩ := owns_cell h f1
  obtain ⟨g2, e2, _, c2, _⟩ := owns_cell h f2
  obtain ⟨g3, e3, _, c3, _⟩ := owns_cell h f3
  obtain ⟨g4, e4, _, c4, _⟩ := owns_cell h f4
  obtain ⟨g5, e5, _, c5, _⟩ := owns_cell h f5
  cases e0; cases e1; cases e2; cases e3; cases e4; cases e5
  exact ⟨by simpa using c0, by simpa using c1, by simpa using c2, by simpa using c3, by simpa using c4, by simpa using c5⟩
theorem txc_get (l : List Td) (wv : Nat → Value) {i : Nat} (hi : i < l.length) : (txc l wv)[i * 3]? = some (.int .i64 (tAt l i).i) ∧ (txc l wv)[i * 3 + 1]? = some (.int .i64 (tAt l i).s) ∧ (txc l wv)[i * 3 + 2]? = some (wv i) := tri_get _ _ _ _ _ hi
theorem txs_ofOwns {w : World} {base : Nat} {v : Value} {l : List Td} {wv : Nat → Value} (h : w.ownsRow base 97 3 v l.length (txc l wv)) (hw : ∀ i, i < l.length → w.ownsRow base 111 3 (wv i) (tAt l i).w.length (flat (tAt l i).w)) (hn : l.length ≤ 1048580) (hn2 : ∀ i, i < l.length → (tAt l i).w.length ≤ 1048580) : TxsAt base w.heap.size w v l := by
  obtain ⟨a, c, rfl⟩ := owns_sliceM h
  refine ⟨a, c, rfl, by unfold maxLen; omega, fun hp => ?_⟩
  obtain ⟨g, rfl, hb, hc, _⟩ := owns_cell h (txc_get l wv hp).1
  refine ⟨g, 0, rfl, hb, cell_lt hc, fun i hi => ?_⟩
  obtain ⟨f0, f1, f2⟩ := txc_get l wv hi
  obtain ⟨g0, e0, _, c0, _⟩ := owns_cell h f0
  obtain ⟨g1, e1, _, c1, _⟩ := owns_cell h f1
  obtain ⟨g2, e2, _, c2, _⟩ := owns_cell h f2
  cases e0; cases e1; cases e2
  have hr := rows_ofOwns (hw i hi) (hn2 i hi)
  obtain ⟨a2, cc2, e3⟩ := owns_sliceM (hw i hi)
  rw [e3] at c2 hr
  exact ⟨by simpa using c0, by simpa using c1, a2, cc2, by simpa using c2, hr⟩
theorem OwnT.wide {lo hi lo' hi' : Nat} {w : World} {v : Value} {l : List Ch} (h : OwnT lo hi w v l) (hl : lo' ≤ lo) (hh : hi ≤ hi') : OwnT lo' hi' w v l := by
  rcases h with h | ⟨b, Bs, cap, h1, h2⟩
  · exact .inl h
  · exact .inr ⟨b, Bs, cap, h1, h2.wide hl hh⟩
theorem ChainsAt.wide' {lo hi lo' hi' : Nat} {w : World} {v : Value} {l : List Ch} (h : ChainsAt lo hi w v l) (hl : lo' ≤ lo) (hh : hi ≤ hi') : ChainsAt lo' hi' w v l := h.wide hl hh
/-- Bounded, with a little room. -/
structure SmallM' (m : Md) : Prop where
  s : Small m.s
  x : m.x.length ≤ 1048580
  w : ∀ i, i < m.x.length → (tAt m.x i).w.length ≤ 1048580
  h : m.h.length ≤ 1048580
theorem OwnM.mat {base s0 s1 : Nat} {w : World} {vs vt ve : Value} {m : Md} {wv : Nat → Value} (h : OwnM base w s0 s1 vs vt ve m wv) (hn : SmallM' m) : MAt base w.heap.size w vs vt ve m :=
  ⟨(h.s.chains hn.s).wide h.sb.1 h.sb.2.2, txs_ofOwns h.x h.xw hn.x hn.w, evs_ofOwns h.h hn.h⟩

/-- The cells of the variable that holds a state. -/
def bxf (vs : Value) (c n : Int) (vt ve : Value) : Nat → Value
  | 0 => vs
  | 1 => .int .i64 c
  | 2 => .int .i64 n
  | 3 => vt
  | _ => ve
/-- A state behind a pointer. -/
structure PtrM (base : Nat) (w : World) (B s0 s1 : Nat) (vs vt ve : Value) (m : Md) (wv : Nat → Value) : Prop where
  own : OwnM base w s0 s1 vs vt ve m wv
  box : RowOf w B 36 5 (bxf vs m.c m.n vt ve)
  base : base ≤ B
  far : B < s0 ∨ s1 ≤ B
  apart : ∀ a, a < m.x.length + 2 → (mv vt ve wv a).ownBlock ≠ some B
theorem PtrM.keep {base B s0 s1 : Nat} {w w' : World} {vs vt ve : Value} {m : Md} {wv : Nat → Value} (h : PtrM base w B s0 s1 vs vt ve m wv) (hk : ∀ k, base ≤ k → k < w.heap.size → w'.heap[k]? = w.heap[k]?) (hz : w.heap.size ≤ w'.heap.size) : PtrM base w' B s0 s1 vs vt ve m wv :=
  ⟨h.own.keep hk hz, h.box.of_block (hk _ h.base h.box.lt), h.base, h.far, h.apart⟩
theorem PtrM.stays {base B s0 s1 : Nat} {w w' : World} {vs vt ve : Value} {m : Md} {wv : Nat → Value} (h : PtrM base w B s0 s1 vs vt ve m wv) (hb : Below w.heap.size w w') : PtrM base w' B s0 s1 vs vt ve m wv := h.keep (fun k _ hl => hb.block k hl) hb.size

end Go.Proofs.YtmecbppblbmchaaGreatDoor
