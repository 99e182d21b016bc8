/- What Parse answers, as a set that is read, and as one that is marked. -/
import Derived.Test.YtkdlgglikhbnkalTMark
import Derived.Test.YtkdlgglikhbnkalTEq
import Derived.Test.YtkdlgglikhbnkalPParse4
namespace Go.Proofs.Ytkdlgglikhbnkal
open Go.ChangeShapes Go.WideShapes Go.ChangeAt Go.RowKit
set_option linter.unusedVariables false
set_option maxRecDepth 100000
attribute [local go_sem ↓] Go.wp_at_zero Go.wp_at_succ

theorem own_max {w : World} {base : Nat} {E : TypeId} {sz : Nat} {v : Value} {n : Nat} {xs : List Value} (h : w.ownsRow base E sz v n xs) : n ≤ maxLen := by
  rcases h.2 with ⟨_, h2⟩ | ⟨g, cap, cur, _, _, _, h6, h7, _⟩
  · omega
  · omega
theorem scells_get (l : List ByteArray) {i : Nat} (h : i < l.length) : (scells l)[i]? = some (.string (sAt l i)) := by simp [scells, sAt, h]
theorem pcells_get : ∀ (q : List Qp) (i : Nat), i < q.length → (pcells q)[i * 3]? = some (.string (qpAt q i).1.name) ∧ (pcells q)[i * 3 + 1]? = some (qpAt q i).2 ∧ (pcells q)[i * 3 + 2]? = some (.int .i64 (qpAt q i).1.body)
  | [], i, h => absurd h (Nat.not_lt_zero _)
  | x :: q, 0, _ => by simp [pcells, pcell, qpAt]
  | x :: q, i + 1, h => by
    obtain ⟨h1, h2, h3⟩ := pcells_get q i (by simpa using h)
    have e : ∀ j, (pcells (x :: q))[j + 3]? = (pcells q)[j]? := fun j => by
      show (pcell x ++ pcells q)[j + 3]? = _
      rw [List.getElem?_append_right (by simp [pcell])]
      simp [pcell]
    have a : qpAt (x :: q) (i + 1) = qpAt q i := by simp [qpAt]
    rw [a]
    refine ⟨?_, ?_, ?_⟩
    · rw [show (i + 1) * 3 = i * 3 + 3 by omega, e, h1]
    · rw [show (i + 1) * 3 + 1 = i * 3 + 1 + 3 by omega, e, h2]
    · rw [show (i + 1) * 3 + 2 = i * 3 + 2 + 3 by omega, e, h3]

theorem intsAt_own {w : World} {base : Nat} {v : Value} {l : List Int} (h : w.ownsRow base 3 1 v l.length (icells l)) : IntsAt base w.heap.size w v l := by
  obtain ⟨a, c, hv⟩ := own_slice h
  refine ⟨a, c, hv, own_max h, fun hp => ?_⟩
  obtain ⟨g, cap, e, hb, hg⟩ := h.form hp
  subst hv
  cases e
  refine ⟨g, 0, rfl, hb, hg, fun i hi => ?_⟩
  rw [Nat.zero_add, h.cellAt i (by omega), icells_get l hi]
theorem textsAt_own {w : World} {base : Nat} {v : Value} {l : List ByteArray} (h : w.ownsRow base 9 1 v l.length (scells l)) : TextsAt base w.heap.size w v l := by
  obtain ⟨a, c, hv⟩ := own_slice h
  refine ⟨a, c, hv, own_max h, fun hp => ?_⟩
  obtain ⟨g, cap, e, hb, hg⟩ := h.form hp
  subst hv
  cases e
  refine ⟨g, 0, rfl, hb, hg, fun i hi => ?_⟩
  rw [Nat.zero_add, h.cellAt i (by omega), scells_get l hi]
theorem nodesAt_own {w : World} {base : Nat} {v : Value} {q : List Qn} (h : OwnN base w v q) : NodesAt base w.heap.size w v (qnds q) := by
  obtain ⟨a, c, hv⟩ := own_slice h.row
  refine ⟨a, c, by rw [qnds_length]; exact hv, by rw [qnds_length]; exact own_max h.row, fun hp => ?_⟩
  rw [qnds_length] at hp ⊢
  obtain ⟨g, cap, e, hb, hg⟩ := h.row.form hp
  have hr := h.row
  subst hv
  cases e
  refine ⟨g, 0, rfl, hb, hg, fun i hi => ?_⟩
  obtain ⟨c0, c1, c2, c3⟩ := ncells_get q i hi
  rw [qnds_at q hi, Nat.zero_add]
  obtain ⟨ka, kc, hk⟩ := own_slice (h.lists i hi)
  refine ⟨by rw [hr.cellAt _ (by omega), c0], by rw [hr.cellAt _ (by omega), c1], by rw [hr.cellAt _ (by omega), c2], ka, kc, by rw [hr.cellAt _ (by omega), c3, hk], ?_⟩
  rw [← hk]
  exact intsAt_own (h.lists i hi)
theorem procsAt_own {w : World} {base : Nat} {v : Value} {q : List Qp} (h : OwnP base w v q) : ProcsAt base w.heap.size w v (qprs q) := by
  obtain ⟨a, c, hv⟩ := own_slice h.row
  refine ⟨a, c, by rw [qprs_length]; exact hv, by rw [qprs_length]; exact own_max h.row, fun hp => ?_⟩
  rw [qprs_length] at hp ⊢
  obtain ⟨g, cap, e, hb, hg⟩ := h.row.form hp
  have hr := h.row
  subst hv
  cases e
  refine ⟨g, 0, rfl, hb, hg, fun i hi => ?_⟩
  obtain ⟨c0, c1, c2⟩ := pcells_get q i hi
  rw [qprs_at q hi, Nat.zero_add]
  obtain ⟨ka, kc, hk⟩ := own_slice (h.lists i hi)
  refine ⟨by rw [hr.cellAt _ (by omega), c0], ⟨ka, kc, by rw [hr.cellAt _ (by omega), c1, hk], ?_⟩, by rw [hr.cellAt _ (by omega), c2]⟩
  rw [← hk]
  exact textsAt_own (h.lists i hi)

theorem nst_own {w : World} {base : Nat} {a : Option Addr} {c : Nat} {q : List Qn} (h : OwnN base w (.slice a q.length c) q) (k : Nat) (hp : 0 < q.length) : ∃ nB, a = some ⟨nB, 0, none⟩ ∧ (Value.slice a q.length c).ownBlock = some nB ∧ NSt w nB q k 0 := by
  obtain ⟨g, cap, e, hb, hg⟩ := h.row.form hp
  have hr := h.row
  cases e
  refine ⟨g, rfl, rfl, _, rowOf_owns hr, fun j hj => ?_, fun j hj => KidRow.of_owns (h.lists j hj), fun j hj => absurd hj (Nat.not_lt_zero _)⟩
  obtain ⟨_, _, _, c3⟩ := ncells_get q j hj
  show (ncells q).getD (j * 4 + 3) undef = _
  rw [List.getD_eq_getElem?_getD, c3]
  rfl
theorem pst_own {w : World} {base : Nat} {a : Option Addr} {c : Nat} {q : List Qp} (h : OwnP base w (.slice a q.length c) q) (k : Nat) (hp : 0 < q.length) : ∃ pB, a = some ⟨pB, 0, none⟩ ∧ (Value.slice a q.length c).ownBlock = some pB ∧ PSt w pB q k 0 := by
  obtain ⟨g, cap, e, hb, hg⟩ := h.row.form hp
  have hr := h.row
  cases e
  refine ⟨g, rfl, rfl, _, rowOf_owns hr, fun j hj => ?_, fun j hj => KidRow.of_owns (h.lists j hj), fun j hj => absurd hj (Nat.not_lt_zero _)⟩
  obtain ⟨_, c3, _⟩ := pcells_get q j hj
  show (pcells q).getD (j * 3 + 1) undef = _
  rw [List.getD_eq_getElem?_getD, c3]
  rfl

theorem qn_take {q : List Qn} {i : Nat} (hi : i < q.length) : q.take (i + 1) = q.take i ++ [qnAt q i] := by
  rw [List.take_add_one, List.getElem?_eq_getElem hi]
  simp [qnAt, hi]
theorem nk_eq (q : List Qn) : ∀ i, i ≤ q.length → nk q i = 3 * i + (flatK (qnds (q.take i))).length
  | 0, _ => by simp [nk, flatK, qnds]
  | i + 1, hi => by
    have h := nk_eq q i (by omega)
    rw [qn_take hi, qnds_snoc, flatK_append, flatK_one, List.length_append, nk, h]
    omega
theorem nk_le (q : List Qn) {i : Nat} (hi : i ≤ q.length) : nk q i ≤ 3 * q.length + (flatK (qnds q)).length := by
  rw [nk_eq q i hi]
  have e : flatK (qnds q) = flatK (qnds (q.take i)) ++ flatK (qnds (q.drop i)) := by
    rw [← flatK_append]
    congr 1
    rw [qnds, qnds, qnds, ← List.map_append, List.take_append_drop]
  rw [e, List.length_append]
  omega
theorem qp_take {q : List Qp} {i : Nat} (hi : i < q.length) : q.take (i + 1) = q.take i ++ [qpAt q i] := by
  rw [List.take_add_one, List.getElem?_eq_getElem hi]
  simp [qpAt, hi]
theorem pk_eq (q : List Qp) : ∀ i, i ≤ q.length → pk q i = psum (qprs (q.take i))
  | 0, _ => by simp [pk, psum, qprs]
  | i + 1, hi => by
    have h := pk_eq q i (by omega)
    rw [qp_take hi, qprs_snoc, psum_snoc, pk, h]
    omega
theorem psum_append (a b : List Pr) : psum (a ++ b) = psum a + psum b := by simp [psum]
theorem pk_le (q : List Qp) {i : Nat} (hi : i ≤ q.length) : pk q i ≤ psum (qprs q) := by
  rw [pk_eq q i hi]
  have e : qprs q = qprs (q.take i) ++ qprs (q.drop i) := by rw [qprs, qprs, qprs, ← List.map_append, List.take_append_drop]
  rw [e, psum_append]
  omega
theorem psum_len : ∀ l : List Pr, 2 * l.length ≤ psum l
  | [] => by simp
  | x :: l => by
    have h := psum_len l
    have e : psum (x :: l) = 2 + x.ps.length + psum l := by simp [psum]
    rw [e, List.length_cons]
    omega

/-- The set of q and p that is marked from k on. -/
structure MSet (w : World) (na : Option Addr) (q : List Qn) (pa : Option Addr) (p : List Qp) (k : Nat) : Prop where
  n : 0 < q.length → ∃ nB, na = some ⟨nB, 0, none⟩ ∧ NSt w nB q k q.length
  p : 0 < p.length → ∃ pB, pa = some ⟨pB, 0, none⟩ ∧ PSt w pB p (k + nk q q.length) p.length
theorem MSet.stays {w w' : World} {na : Option Addr} {q : List Qn} {pa : Option Addr} {p : List Qp} {k : Nat} (h : MSet w na q pa p k) (hb : Below w.heap.size w w') : MSet w' na q pa p k :=
  ⟨fun hp => by obtain ⟨nB, e, h⟩ := h.n hp; exact ⟨nB, e, h.stays hb⟩, fun hp => by obtain ⟨pB, e, h⟩ := h.p hp; exact ⟨pB, e, h.stays hb⟩⟩

theorem NSt.keep {w w' : World} {nB : Nat} {q : List Qn} {k i : Nat} (h : NSt w nB q k i) (hB : nB < w.heap.size → w'.heap[nB]? = w.heap[nB]?) (hk : ∀ j, j < q.length → ∀ g, (qnAt q j).2.ownBlock = some g → g < w.heap.size → w'.heap[g]? = w.heap[g]?) (hi : i ≤ q.length) : NSt w' nB q k i := by
  obtain ⟨f, h1, h2, h3, h4⟩ := h
  refine ⟨f, h1.of_block (hB h1.lt), h2, fun j hj => ?_, fun j hj => ?_⟩
  · obtain ⟨x, hx⟩ := h3 j hj
    exact ⟨x, hx.keep (hk j hj)⟩
  · obtain ⟨a1, a2, a3, a4⟩ := h4 j hj
    exact ⟨a1, a2, a3, a4.keep (hk j (by omega))⟩

set_option maxHeartbeats 4000000 in
theorem markSet_any {base : Nat} (na : Option Addr) (nc : Nat) (q : List Qn) (pa : Option Addr) (pc : Nat) (p : List Qp) (w : World) (hN : OwnN base w (.slice na q.length nc) q) (hP : OwnP base w (.slice pa p.length pc) p)
    (hd : ∀ g, pown (.slice pa p.length pc) p g → (Value.slice na q.length nc).ownBlock ≠ some g ∧ ∀ j, j < q.length → (qnAt q j).2.ownBlock ≠ some g)
    (hq : q.length ≤ 800) (hbn : ∀ i, i ≤ q.length → nk q i ≤ 10000) (hp6 : p.length ≤ 6000) (hbp : ∀ i, i ≤ p.length → pk p i ≤ 10000) (hbase : base ≤ w.heap.size) :
    Calls Try.prog 25 #[.agg #[.slice na q.length nc, .slice pa p.length pc], .int .i64 1] w fun e w' => e = .returned (.int .i64 ((1 + nk q q.length + pk p p.length : Nat) : Int)) ∧ Wr (fun g => ((Value.slice na q.length nc).ownBlock = some g ∨ ∃ i, i < q.length ∧ (qnAt q i).2.ownBlock = some g) ∨ pown (.slice pa p.length pc) p g) w w' ∧ MSet w' na q pa p 1 := by
  have bA : Below w.heap.size w (w.alloc (Obj.cells #[.slice na q.length nc, .slice pa p.length pc] 34)) := (Below.refl _ _).alloc (Nat.le_refl _) _
  have hN1 := hN.stays bA
  have hP1 := hP.keep (w' := (w.alloc (Obj.cells #[.slice na q.length nc, .slice pa p.length pc] 34))) fun g _ hl => bA.block g hl
  have y0 : (w.alloc (Obj.cells #[.slice na q.length nc, .slice pa p.length pc] 34)).cell? ⟨w.heap.size, 0, none⟩ = some (.slice na q.length nc) := by simp [go_sem]
  have y1 : (w.alloc (Obj.cells #[.slice na q.length nc, .slice pa p.length pc] 34)).cell? ⟨w.heap.size, 1, none⟩ = some (.slice pa p.length pc) := by simp [go_sem]
  have hlt : w.heap.size < (w.alloc (Obj.cells #[.slice na q.length nc, .slice pa p.length pc] 34)).heap.size := by simp
  have hnl : ∀ g, ((Value.slice na q.length nc).ownBlock = some g ∨ ∃ i, i < q.length ∧ (qnAt q i).2.ownBlock = some g) → base ≤ g ∧ g < w.heap.size := fun g hg => by
    rcases hg with hg | ⟨i, hi, hg⟩
    · exact own_lt hN.row hg
    · exact own_lt (hN.lists i hi) hg
  have hpl : ∀ g, pown (.slice pa p.length pc) p g → base ≤ g ∧ g < w.heap.size := fun g hg => hP.lt hg
  have hbq := hbn q.length (Nat.le_refl _)
  have hbq2 := hbp p.length (Nat.le_refl _)
  go_enter Try.func25, Try.ntmps25
  go_wp2_with fail
  generalize w.alloc (Obj.cells #[.slice na q.length nc, .slice pa p.length pc] 34) = w1 at *
  refine (markNodeS_any na nc 1 q w1 (by omega) hbn (by omega) (by omega) hN1.apart (fun hp => nst_own hN1 1 hp)).mono ?_
  rintro e w2 ⟨rfl, hW2, hM2⟩
  have hP2 := hP1.keep (w' := w2) fun g hg hl => hW2.block g hl (fun hn => by
    obtain ⟨a1, a2⟩ := hd g hg
    rcases hn with hn | ⟨j, hj, hn⟩
    · exact a1 hn
    · exact a2 j hj hn)
  have z1 : w2.cell? ⟨w.heap.size, 1, none⟩ = some (.slice pa p.length pc) := cell_same (hW2.block _ hlt (fun hn => by have := (hnl _ hn).2; omega)) y1
  clear y0 y1
  generalize hKK : 1 + nk q q.length = KK at *
  have HKK : Hid (1 + nk q q.length = KK) := hKK
  have hKb : 1 ≤ KK ∧ KK ≤ 10001 := by omega
  clear hKK
  go_wp2_with fail
  refine (markProcS_any pa pc KK p w2 (by omega) hbp (by omega) (by omega) hP2.apart (fun hp => pst_own hP2 KK hp)).mono ?_
  rintro e w3 ⟨rfl, hW3, hM3⟩
  go_wp2
  go_ret
  refine ⟨by rw [HKK.out]; rfl, (Wr.of_below bA).trans ((hW2.imp fun g hg => .inl hg).trans (hW3.imp fun g hg => .inr hg)), fun hp => ?_, fun hp => ?_⟩
  · obtain ⟨nB, e, h⟩ := hM2 hp
    refine ⟨nB, e, h.keep (fun hl => hW3.block nB hl fun hn => (hd nB hn).1 (by rw [e]; rfl)) (fun j hj g hg hl => hW3.block g hl fun hn => (hd g hn).2 j hj hg) (Nat.le_refl _)⟩
  · obtain ⟨pB, e, h⟩ := hM3 hp
    exact ⟨pB, e, by rw [HKK.out]; exact h⟩

set_option maxHeartbeats 4000000 in
theorem heldSet_any (na : Option Addr) (nc : Nat) (q : List Qn) (pa : Option Addr) (pc : Nat) (p : List Qp) (w : World) (hM : MSet w na q pa p 1)
    (hq : q.length ≤ 800) (hbn : ∀ i, i ≤ q.length → nk q i ≤ 10000) (hp6 : p.length ≤ 6000) (hbp : ∀ i, i ≤ p.length → pk p i ≤ 10000) :
    Calls Try.prog 26 #[.agg #[.slice na q.length nc, .slice pa p.length pc], .int .i64 1] w fun e w' => e = .returned (.int .i64 ((1 + nk q q.length + pk p p.length : Nat) : Int)) ∧ Below w.heap.size w w' := by
  have bA : Below w.heap.size w (w.alloc (Obj.cells #[.slice na q.length nc, .slice pa p.length pc] 34)) := (Below.refl _ _).alloc (Nat.le_refl _) _
  have hM1 := hM.stays bA
  have y0 : (w.alloc (Obj.cells #[.slice na q.length nc, .slice pa p.length pc] 34)).cell? ⟨w.heap.size, 0, none⟩ = some (.slice na q.length nc) := by simp [go_sem]
  have y1 : (w.alloc (Obj.cells #[.slice na q.length nc, .slice pa p.length pc] 34)).cell? ⟨w.heap.size, 1, none⟩ = some (.slice pa p.length pc) := by simp [go_sem]
  have hbq := hbn q.length (Nat.le_refl _)
  have hbq2 := hbp p.length (Nat.le_refl _)
  go_enter Try.func26, Try.ntmps26
  go_wp2_with fail
  generalize w.alloc (Obj.cells #[.slice na q.length nc, .slice pa p.length pc] 34) = w1 at *
  refine (heldNodeS_any na nc 1 q w1 (by omega) hbn (by omega) (by omega) hM1.n).mono ?_
  rintro e w2 ⟨rfl, hb2⟩
  have hM2 := hM1.stays hb2
  have z1 := cell_stays hb2 y1
  clear y0 y1 hM hM1
  have hMp := hM2.p
  generalize hKK : 1 + nk q q.length = KK at *
  have HKK : Hid (1 + nk q q.length = KK) := hKK
  have hKb : 1 ≤ KK ∧ KK ≤ 10001 := by omega
  clear hKK
  have hnn : ¬ (KK : Int) < 0 := by omega
  go_wp2_with fail
  refine (heldProcS_any pa pc KK p w2 (by omega) hbp (by omega) (by omega) hMp).mono ?_
  rintro e w3 ⟨rfl, hb3⟩
  have hnn2 : ¬ ((KK + pk p p.length : Nat) : Int) < 0 := by omega
  go_wp2
  go_ret
  exact ⟨by rw [HKK.out]; rfl, bA.trans ((hb2.trans (hb3.mono hb2.size)).mono bA.size)⟩

end Go.Proofs.Ytkdlgglikhbnkal
