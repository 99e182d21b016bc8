import Derived.Test.YtmecbppblbmchaaGreatDoorPutL
import Derived.Test.YtmecbppblbmchaaGreatDoorLastV
/- An element goes ahead in a row as long as it is less than the one ahead of it: the row stays in order. Of whatever type. -/
namespace Go.Proofs.YtmecbppblbmchaaGreatDoor
set_option linter.unusedVariables false
open Go.ChangeShapes Go.WideShapes Go.ChangeAt Go.RowKit Go.Maps Go.Sort
set_option maxRecDepth 100000
attribute [local go_sem ↓] Go.wp_at_zero Go.wp_at_succ

section
variable {α : Type} (lt : α → α → Bool) (d : α)
def swpG (l : List α) (i : Nat) : List α := (l.set (i + 1) (l.getD i d)).set i (l.getD (i + 1) d)
def bubG : List α → Nat → List α
  | l, 0 => l
  | l, i + 1 => if lt (l.getD (i + 1) d) (l.getD i d) = true then bubG (swpG d l i) i else l

theorem swpG_at (A : List α) (a c : α) (B : List α) : swpG d (A ++ a :: c :: B) A.length = A ++ c :: a :: B := by
  have h1 : (A ++ a :: c :: B).getD A.length d = a := by simp
  have h2 : (A ++ a :: c :: B).getD (A.length + 1) d = c := by simp
  rw [swpG, h1, h2, List.set_append_right _ _ (by omega), List.set_append_right _ _ (by omega)]
  simp

theorem bubG_is (htr : ∀ a b c, lt a b = true → lt b c = true → lt a c = true) : ∀ (n : Nat) (A : List α) (c : α) (B : List α), A.length = n → A.Pairwise (fun a b => lt a b = true) → (∀ a ∈ A, lt a c = true ∨ lt c a = true) →
    ∃ A1 A2, A = A1 ++ A2 ∧ bubG lt d (A ++ c :: B) n = A1 ++ c :: (A2 ++ B) ∧ (A1 ++ c :: A2).Pairwise (fun a b => lt a b = true)
  | 0, A, c, B, hn, hp, hc => by
    have : A = [] := List.length_eq_zero_iff.1 hn
    subst this
    exact ⟨[], [], rfl, rfl, by simp⟩
  | n + 1, A, c, B, hn, hp, hc => by
    obtain ⟨A', a, rfl⟩ : ∃ A' a, A = A' ++ [a] := ⟨A.dropLast, A.getLast (by intro e; rw [e] at hn; simp at hn), (List.dropLast_concat_getLast _).symm⟩
    have hn' : A'.length = n := by simpa using hn
    subst hn'
    rw [List.pairwise_append] at hp
    obtain ⟨hp1, _, hp3⟩ := hp
    have h1 : (A' ++ [a] ++ c :: B).getD (A'.length + 1) d = c := by simp
    have h2 : (A' ++ [a] ++ c :: B).getD A'.length d = a := by simp
    have e : A' ++ [a] ++ c :: B = A' ++ a :: c :: B := by simp
    rw [bubG, h1, h2]
    by_cases hl : lt c a = true
    · rw [if_pos hl, e, swpG_at]
      obtain ⟨A1, A2, e1, e2, e3⟩ := bubG_is htr A'.length A' c (a :: B) rfl hp1 fun x hx => hc x (List.mem_append_left _ hx)
      refine ⟨A1, A2 ++ [a], by rw [e1]; simp, by rw [e2]; simp, ?_⟩
      rw [show A1 ++ c :: (A2 ++ [a]) = (A1 ++ c :: A2) ++ [a] by simp, List.pairwise_append]
      refine ⟨e3, by simp, fun x hx y hy => ?_⟩
      obtain rfl : y = a := by simpa using hy
      rcases List.mem_append.1 hx with hx | hx
      · exact hp3 x (by rw [e1]; exact List.mem_append_left _ hx) y (by simp)
      · rcases List.mem_cons.1 hx with rfl | hx
        · exact hl
        · exact hp3 x (by rw [e1]; exact List.mem_append_right _ hx) y (by simp)
    · rw [if_neg hl]
      have hac : lt a c = true := (hc a (by simp)).resolve_right hl
      refine ⟨A' ++ [a], [], by simp, by simp, ?_⟩
      rw [List.pairwise_append]
      refine ⟨?_, by simp, fun x hx y hy => ?_⟩
      · rw [List.pairwise_append]
        exact ⟨hp1, by simp, hp3⟩
      · obtain rfl : y = c := by simpa using hy
        rcases List.mem_append.1 hx with hx | hx
        · exact htr _ _ _ (hp3 x hx a (by simp)) hac
        · obtain rfl : x = a := by simpa using hx
          exact hac

/-- One more in a row in order: the row in order, and who is in it. -/
theorem bubG_new (htr : ∀ a b c, lt a b = true → lt b c = true → lt a c = true) (l : List α) (c : α) (hp : l.Pairwise (fun a b => lt a b = true)) (hc : ∀ a ∈ l, lt a c = true ∨ lt c a = true) :
    (bubG lt d (l ++ [c]) l.length).Pairwise (fun a b => lt a b = true) ∧ (∀ x, x ∈ bubG lt d (l ++ [c]) l.length ↔ x ∈ l ∨ x = c) ∧ (bubG lt d (l ++ [c]) l.length).length = l.length + 1 := by
  obtain ⟨A1, A2, e1, e2, e3⟩ := bubG_is lt d htr l.length l c [] rfl hp hc
  rw [e2]
  simp only [List.append_nil]
  refine ⟨e3, fun x => ?_, ?_⟩
  · rw [e1]; simp only [List.mem_append, List.mem_cons]
    constructor
    · rintro (h | h | h)
      · exact .inl (.inl h)
      · exact .inr h
      · exact .inl (.inr h)
    · rintro ((h | h) | h)
      · exact .inl h
      · exact .inr (.inr h)
      · exact .inr (.inl h)
  · have : l.length = A1.length + A2.length := by rw [e1]; simp
    simp; omega

theorem swpG_length (l : List α) (i : Nat) : (swpG d l i).length = l.length := by simp [swpG]
theorem bubG_length : ∀ (i : Nat) (l : List α), (bubG lt d l i).length = l.length
  | 0, l => rfl
  | i + 1, l => by
    rw [bubG]
    split
    · rw [bubG_length i, swpG_length]
    · rfl
end

def kltC (a b : Ch) : Bool := klB a.t a.r b.t b.r
def kltR (a b : Rw) : Bool := klB a.t a.r b.t b.r
theorem klB_total {a b c d : Int} (h : ¬ (a = c ∧ b = d)) : klB a b c d = true ∨ klB c d a b = true := by
  simp only [klB, decide_eq_true_eq] at *; omega
theorem klB_irrefl {a b : Int} (h : klB a b a b = true) : False := by
  simp only [klB, decide_eq_true_eq] at h; omega
theorem bub_is : ∀ (i : Nat) (l : List Ch), bub l i = bubG kltC ch0 l i
  | 0, l => rfl
  | i + 1, l => by
    rw [bub, bubG, bub_is i]
    rfl

/-- The last of the first k rows that has that key. -/
def rf (out : List Rw) : Nat → Int → Int → Option Nat
  | 0, _, _ => none
  | k + 1, t, r => if (rAt out k).t = t ∧ (rAt out k).r = r then some k else rf out k t r
def atV : Option Nat → Int
  | some n => n
  | none => -1
def rput (out : List Rw) (x : Rw) : List Rw := match rf out out.length x.t x.r with
  | some n => out.set n ⟨(rAt out n).t, (rAt out n).r, x.v⟩
  | none => bubG kltR rw0 (out ++ [x]) out.length
def rowsL (l : List Rw) : Nat → List Rw
  | 0 => []
  | k + 1 => rput (rowsL l k) (rAt l k)

theorem rf_some {out : List Rw} : ∀ {k : Nat} {t r : Int} {n : Nat}, rf out k t r = some n → n < k ∧ (rAt out n).t = t ∧ (rAt out n).r = r
  | 0, _, _, _, h => by simp [rf] at h
  | k + 1, t, r, n, h => by
    rw [rf] at h
    split at h
    · rename_i hm
      cases h
      exact ⟨by omega, hm⟩
    · obtain ⟨h1, h2⟩ := rf_some h
      exact ⟨by omega, h2⟩
theorem rf_none {out : List Rw} : ∀ {k : Nat} {t r : Int}, rf out k t r = none → ∀ i, i < k → ¬ ((rAt out i).t = t ∧ (rAt out i).r = r)
  | 0, _, _, _, i, hi => absurd hi (Nat.not_lt_zero _)
  | k + 1, t, r, h, i, hi => by
    rw [rf] at h
    split at h
    · cases h
    · rename_i hm
      by_cases e : i = k
      · subst e; exact hm
      · exact rf_none h i (by omega)
theorem rput_length (out : List Rw) (x : Rw) : (rput out x).length ≤ out.length + 1 := by
  unfold rput
  split
  · simp
  · rw [bubG_length]; simp
theorem rowsL_length (l : List Rw) : ∀ k, (rowsL l k).length ≤ k
  | 0 => Nat.le_refl _
  | k + 1 => Nat.le_trans (rput_length _ _) (by have := rowsL_length l k; omega)

theorem flat_setV : ∀ (l : List Rw) (n : Nat) (v : Int), n < l.length → (flat l).set (n * 3 + 2) (.int .i64 v) = flat (l.set n ⟨(rAt l n).t, (rAt l n).r, v⟩)
  | [], n, v, h => absurd h (Nat.not_lt_zero _)
  | y :: l, 0, v, _ => by simp [flat, cells3, rAt]
  | y :: l, n + 1, v, h => by
    have ih := flat_setV l n v (by simpa using h)
    have a : rAt (y :: l) (n + 1) = rAt l n := by simp [rAt]
    rw [a]
    show (cells3 y ++ flat l).set ((n + 1) * 3 + 2) _ = cells3 y ++ flat (l.set n _)
    rw [show (n + 1) * 3 + 2 = n * 3 + 2 + 3 by omega, List.set_append_right _ _ (by simp [cells3]), ← ih]
    simp [cells3]
theorem flat_set : ∀ (l : List Rw) (i : Nat) (x : Rw), i < l.length → (((flat l).set (i * 3) (.int .i64 x.t)).set (i * 3 + 1) (.int .i64 x.r)).set (i * 3 + 2) (.int .i64 x.v) = flat (l.set i x)
  | [], i, x, h => absurd h (Nat.not_lt_zero _)
  | y :: q, 0, x, _ => by simp [flat, cells3]
  | y :: q, i + 1, x, h => by
    have ih := flat_set q i x (by simpa using h)
    have e : ∀ (j : Nat) (v : Value) (xs : List Value), (cells3 y ++ xs).set (j + 3) v = cells3 y ++ xs.set j v := fun j v xs => by
      rw [List.set_append_right _ _ (by simp [cells3])]
      simp [cells3]
    show (((cells3 y ++ flat q).set ((i + 1) * 3) _).set ((i + 1) * 3 + 1) _).set ((i + 1) * 3 + 2) _ = cells3 y ++ flat (q.set i x)
    rw [show (i + 1) * 3 = i * 3 + 3 by omega, e, show i * 3 + 3 + 1 = i * 3 + 1 + 3 by omega, e, show i * 3 + 3 + 2 = i * 3 + 2 + 3 by omega, e, ih]

theorem infoRow2 : (Tryz.prog.info? 111).map (fun i => (i.zero, i.size, i.bytes)) = some (some (.agg #[.int .i64 0, .int .i64 0, .int .i64 0]), 3, 24) := by kernel_rfl

/-- Cells of rows of its own. -/
theorem row_cells {w : World} {base g cap : Nat} {l : List Rw} (h : w.ownsRow base 111 3 (.slice (some ⟨g, 0, none⟩) l.length cap) l.length (flat l)) {i : Nat} (hi : i < l.length) : w.cell? ⟨g, i * 3, none⟩ = some (.int .i64 (rAt l i).t) ∧ w.cell? ⟨g, i * 3 + 1, none⟩ = some (.int .i64 (rAt l i).r) ∧ w.cell? ⟨g, i * 3 + 2, none⟩ = some (.int .i64 (rAt l i).v) := by
  obtain ⟨e1, e2, e3⟩ := flat_get l i hi
  exact ⟨(h.cellAt _ (by omega)).trans e1, (h.cellAt _ (by omega)).trans e2, (h.cellAt _ (by omega)).trans e3⟩

set_option maxHeartbeats 4000000 in
theorem l1rows_any (v : Value) (l : List Rw) (w : World) {lo hi : Nat} (h : RowsAt lo hi w v l) (hn : l.length ≤ 1048576) :
    Calls Tryz.prog 84 #[v] w fun e w' => ∃ ov, e = .returned ov ∧ w'.ownsRow w.heap.size 111 3 ov (rowsL l l.length).length (flat (rowsL l l.length)) ∧ Below w.heap.size w w' := by
  obtain ⟨a, cap, hv, hm, hc⟩ := id h
  subst hv
  obtain ⟨i0, hI, hz0, hz1, hz2⟩ := info_parts infoRow2
  go_enter Tryz.func84, Tryz.ntmps84
  go_wp2
  go_loopw [3, 4] (fun ov i wr => ∃ (k : Nat) (out : List Rw), k ≤ l.length ∧ i = .int .i64 k ∧ Hid (out = rowsL l k) ∧ out.length ≤ k ∧ Below w.heap.size w wr ∧ wr.ownsRow w.heap.size 111 3 ov out.length (flat out)) (fun _ i _ => l.length - (intOf i).toNat)
  case atStart => exact ⟨0, [], Nat.zero_le _, rfl, rfl, Nat.le_refl _, Below.refl _ _, World.ownsRow_nil _ _ _ _⟩
  case round =>
    rename World => wo
    obtain ⟨k, out, hk, rfl, hout, hlen, hb, hO⟩ := hrel
    by_cases hlt : k < l.length
    · obtain ⟨b, off, rfl, hlo, hhi, hcc⟩ := hc (by omega)
      obtain ⟨c0, c1, c2⟩ := hcc k hlt
      have hbw : b < w.heap.size := cell_lt c0
      have i0' : (0 : Int) ≤ (k : Int) := by omega
      have i1' : (k : Int) < (l.length : Int) := by omega
      clear hcc hc h
      obtain ⟨oa, om, oc, hov⟩ := owns_slice hO
      have hom : om = out.length := by
        rcases hO.2 with ⟨e, e2⟩ | ⟨g, cap', cur, e, _⟩
        · rw [hov] at e; cases e; exact e2.symm
        · rw [hov] at e; cases e; rfl
      subst hov hom
      go_wp2
      go_loopw [5, 6] (fun at' j wx => ∃ (q : Nat), q ≤ out.length ∧ j = .int .i64 q ∧ at' = .int .i64 (atV (rf out q (rAt l k).t (rAt l k).r)) ∧ Below wo.heap.size wo wx) (fun _ j _ => out.length - (intOf j).toNat)
      case atStart => exact ⟨0, Nat.zero_le _, rfl, rfl, Below.refl _ _⟩
      case round =>
        rename World => wx
        obtain ⟨q, hq, rfl, rfl, hbx⟩ := hrel
        by_cases hql : q < out.length
        · obtain ⟨g, gc, hge, hgb, hgl⟩ := hO.form (by omega)
          cases hge
          obtain ⟨d0, d1, d2⟩ := row_cells hO hql
          have bq := hb.trans (hbx.mono hb.size)
          have k0 := cell_regrown (cell_stays hbx d0)
          have k1 := cell_regrown (cell_stays hbx d1)
          have k3 := cell_regrown (cell_stays bq c0)
          have k4 := cell_regrown (cell_stays bq c1)
          have j0 : (0 : Int) ≤ (q : Int) := by omega
          have j1 : (q : Int) < (out.length : Int) := by omega
          have keq := key_eql (rAt out q).t (rAt out q).r (rAt l k).t (rAt l k).r
          clear d0 d1 d2 c0 c1 c2
          by_cases hkm : (rAt out q).t = (rAt l k).t ∧ (rAt out q).r = (rAt l k).r
          · have hd : decide ((rAt out q).t = (rAt l k).t ∧ (rAt out q).r = (rAt l k).r) = true := decide_eq_true hkm
            have hrf : rf out (q + 1) (rAt l k).t (rAt l k).r = some q := by rw [rf, if_pos hkm]
            change Hid _ at hrf
            rw [hd] at keq
            clear hkm hd
            go_wp2_with fail
            refine wp_region_quiet_below (by kernel_rfl) (by kernel_rfl) ?_
            repeat (go_big_quiet_step (fail))
            refine wpQuiet_nil ?_
            intro w2 hw2
            obtain ⟨⟨dq, osq⟩, hw3⟩ := hw2
            have hb2 : Below _ _ w2 := hw3 ▸ below_regrown _ dq osq
            clear hw3 keq k0 k1 k3 k4
            go_wp2
            go_roundw
            case rel => exact ⟨q + 1, by omega, by go_num, by rw [hrf.out]; rfl, hbx.trans (hb2.mono hbx.size)⟩
            case measure => simp [intOf]; omega
          · have hd : decide ((rAt out q).t = (rAt l k).t ∧ (rAt out q).r = (rAt l k).r) = false := decide_eq_false hkm
            have hrf : rf out (q + 1) (rAt l k).t (rAt l k).r = rf out q (rAt l k).t (rAt l k).r := by rw [rf, if_neg hkm]
            change Hid _ at hrf
            rw [hd] at keq
            clear hkm hd
            go_wp2_with fail
            refine wp_region_quiet_below (by kernel_rfl) (by kernel_rfl) ?_
            repeat (go_big_quiet_step (fail))
            refine wpQuiet_nil ?_
            intro w2 hw2
            obtain ⟨⟨dq, osq⟩, hw3⟩ := hw2
            have hb2 : Below _ _ w2 := hw3 ▸ below_regrown _ dq osq
            clear hw3 keq k0 k1 k3 k4
            go_wp2
            go_roundw
            case rel => exact ⟨q + 1, by omega, by go_num, by rw [hrf.out], hbx.trans (hb2.mono hbx.size)⟩
            case measure => simp [intOf]; omega
        · have hqq : q = out.length := by omega
          subst hqq
          have bq := hb.trans (hbx.mono hb.size)
          have e0 := cell_stays bq c0
          have e1 := cell_stays bq c1
          have e2 := cell_stays bq c2
          have hOx := owns_keep hO fun g hg hgl => hbx.block g hgl
          clear c0 c1 c2 hbx hO hb
          cases hr : rf out out.length (rAt l k).t (rAt l k).r with
          | some n =>
            obtain ⟨n1, n2, n3⟩ := rf_some hr
            obtain ⟨g, gc, hge, hgb, hgl⟩ := hOx.form (by omega)
            cases hge
            obtain ⟨d0, d1, d2⟩ := row_cells hOx n1
            have hfz : wx.frozen? ⟨g, n * 3 + 2, none⟩ = false := hOx.frozenAt _
            have j0 : (0 : Int) ≤ (n : Int) := by omega
            have j1 : (n : Int) < (out.length : Int) := by omega
            have hat : atV (some n) = (n : Int) := rfl
            obtain ⟨s1, t1⟩ := hOx.stored (n * 3 + 2) (.int .i64 (rAt l k).v)
            rw [flat_setV out n (rAt l k).v n1] at s1
            have hrr : Hid (out.set n ⟨(rAt out n).t, (rAt out n).r, (rAt l k).v⟩ = rowsL l (k + 1)) := by
              show _ = _
              rw [rowsL, ← hout.out, rput, hr]
            clear hr
            go_wp2
            go_roundw
            case rel => exact ⟨k + 1, _, by omega, by go_num, hrr, by simp; omega, bq.setCell hgb _, by rw [List.length_set]; exact s1⟩
            case measure => simp [intOf]; omega
          | none =>
            have hat : atV none = -1 := rfl
            have hrr : Hid (bubG kltR rw0 (out ++ [rAt l k]) out.length = rowsL l (k + 1)) := by
              show _ = _
              rw [rowsL, ← hout.out, rput, hr]
            clear hr
            have hovl : ∀ g, (Value.slice oa out.length oc).ownBlock = some g → w.heap.size ≤ g := fun g hg => (owns_lt hOx hg).1
            have hwx := bq.size
            have b2 := below_alloc wx (Obj.cells #[.int .i64 (rAt l k).t, .int .i64 (rAt l k).r, .int .i64 (rAt l k).v] 111)
            go_wp2_with (at_builtin; refine wpList_append_lies _ rfl _ _ 95 rfl w.heap.size 111 i0 _ 3 24 Tryz.underlying95 hI hz0 hz1 hz2 rfl (by decide) _ out.length (flat out) rfl (hOx.alloc _) ⟨wx.heap.size, 0, none⟩ 1 1 (cells3 (rAt l k)) rfl rfl (World.news_of_block (heap_alloc_new wx _)) (by simp [cells3, Value.oneCell']) (by omega) (by unfold maxLen; omega) (by omega) (by simp; omega) (wx.heap.size + 1) (by simp) ?_; intro g2 cap2 w2 hown2 hgrow2 hat2 hlt2)
            have bq2 : Below w.heap.size w w2 := (bq.trans (b2.mono hwx)).grown hgrow2 (by simp; omega) hovl
            rw [show flat out ++ cells3 (rAt l k) = flat (out ++ [rAt l k]) from (flat_snoc _ _).symm] at hown2
            have hl1 : (out ++ [rAt l k]).length = out.length + 1 := by simp
            generalize hq1 : out ++ [rAt l k] = q1 at *
            clear hgrow2 b2 hat2 hOx e0 e1 e2 hat hovl bq hq1
            go_wp2
            go_loopw [7] (fun i wr => ∃ (j : Nat) (qk : List Rw), j < out.length + 1 ∧ qk.length = out.length + 1 ∧ i = .int .i64 j ∧ Hid (bubG kltR rw0 qk j = bubG kltR rw0 q1 out.length) ∧ Below w.heap.size w wr ∧ wr.ownsRow w.heap.size 111 3 (.slice (some ⟨g2, 0, none⟩) (out.length + 1) cap2) (out.length + 1) (flat qk)) (fun i _ => (intOf i).toNat)
            case atStart => exact ⟨out.length, q1, by omega, hl1, rfl, rfl, bq2, hown2⟩
            case round =>
              clear bq2 hown2 hl1
              obtain ⟨j, qk, hj, hql, rfl, hbub, hbk, hOk⟩ := hrel
              rename World => wr
              cases j with
              | zero =>
                have hd : decide ((0 : Int) < ((0 : Nat) : Int)) = false := rfl
                go_wp2_with fail
                refine wp_region_quiet_below (by kernel_rfl) (by kernel_rfl) ?_
                repeat (go_big_quiet_step (fail))
                refine wpQuiet_nil ?_
                intro w4 hw4
                obtain ⟨⟨dq, osq⟩, hw5⟩ := hw4
                have hb4 : Below _ _ w4 := hw5 ▸ below_regrown _ dq osq
                clear hw5
                have hO4 := owns_keep hOk fun g hg hgl => hb4.block g hgl
                go_wp2
                go_roundw
                case rel => exact ⟨k + 1, qk, by omega, by go_num, by rw [← hrr.out, ← hbub.out]; rfl, by omega, hbk.trans (hb4.mono hbk.size), by rw [hql]; exact hO4⟩
                case measure => simp [intOf]; omega
              | succ j' =>
                have hcl : ∀ i, i < out.length + 1 → wr.cell? ⟨g2, i * 3, none⟩ = some (.int .i64 (rAt qk i).t) ∧ wr.cell? ⟨g2, i * 3 + 1, none⟩ = some (.int .i64 (rAt qk i).r) ∧ wr.cell? ⟨g2, i * 3 + 2, none⟩ = some (.int .i64 (rAt qk i).v) := fun i hi => by
                  have hr := hOk
                  rw [← hql] at hr
                  exact row_cells hr (by omega)
                obtain ⟨c0, c1, c2⟩ := hcl (j' + 1) hj
                obtain ⟨d0, d1, d2⟩ := hcl j' (by omega)
                have m0 := cell_regrown c0
                have m1 := cell_regrown c1
                have m3 := cell_regrown d0
                have m4 := cell_regrown d1
                have i0' : (0 : Int) ≤ (j' : Int) := by omega
                have i1' : (j' : Int) < (out.length : Int) := by omega
                have i2 : (j' : Int) + 1 < (out.length : Int) + 1 := by omega
                have i3 : (j' : Int) < (out.length : Int) + 1 := by omega
                have i4 : (j' : Int) ≤ 1048576 := by omega
                clear hcl
                by_cases hkl : klB (rAt qk (j' + 1)).t (rAt qk (j' + 1)).r (rAt qk j').t (rAt qk j').r = true
                · go_wp2_with fail
                  refine wp_region_quiet_below (by kernel_rfl) (by kernel_rfl) ?_
                  repeat (go_big_quiet_step (first | (go_at_call 99; exact Calls.regrown_of (specKeyLess_any _ _ _ _ _))))
                  refine wpQuiet_nil ?_
                  intro w4 hw4
                  obtain ⟨⟨dq, osq⟩, hw5⟩ := hw4
                  have hb4 : Below _ _ w4 := hw5 ▸ below_regrown _ dq osq
                  clear hw5 m0 m1 m3 m4
                  replace hOk := owns_keep hOk fun g hg hgl => hb4.block g hgl
                  replace c0 := cell_stays hb4 c0
                  replace c1 := cell_stays hb4 c1
                  replace c2 := cell_stays hb4 c2
                  replace d0 := cell_stays hb4 d0
                  replace d1 := cell_stays hb4 d1
                  replace d2 := cell_stays hb4 d2
                  have bk4 := hbk.trans (hb4.mono hbk.size)
                  have hg2 : w.heap.size ≤ g2 := (owns_lt hOk (g := g2) rfl).1
                  have hg2l : g2 < w4.heap.size := cell_lt c0
                  have hne : w4.heap.size ≠ g2 := by omega
                  have f0 : w4.frozen? ⟨g2, (j' + 1) * 3, none⟩ = false := hOk.frozenAt _
                  have f1 : w4.frozen? ⟨g2, (j' + 1) * 3 + 1, none⟩ = false := hOk.frozenAt _
                  have f2 : w4.frozen? ⟨g2, (j' + 1) * 3 + 2, none⟩ = false := hOk.frozenAt _
                  have f3 : w4.frozen? ⟨g2, j' * 3, none⟩ = false := hOk.frozenAt _
                  have f4 : w4.frozen? ⟨g2, j' * 3 + 1, none⟩ = false := hOk.frozenAt _
                  have f5 : w4.frozen? ⟨g2, j' * 3 + 2, none⟩ = false := hOk.frozenAt _
                  have HK : Hid (klB (rAt qk (j' + 1)).t (rAt qk (j' + 1)).r (rAt qk j').t (rAt qk j').r = true) := hkl
                  clear hkl hb4 hbk
                  obtain ⟨s1, t1⟩ := hOk.stored ((j' + 1) * 3) (.int .i64 (rAt qk j').t)
                  obtain ⟨s2, t2⟩ := s1.stored ((j' + 1) * 3 + 1) (.int .i64 (rAt qk j').r)
                  obtain ⟨s3, t3⟩ := s2.stored ((j' + 1) * 3 + 2) (.int .i64 (rAt qk j').v)
                  rw [flat_set qk (j' + 1) (rAt qk j') (by omega)] at s3
                  obtain ⟨s4, t4⟩ := s3.stored (j' * 3) (.int .i64 (rAt qk (j' + 1)).t)
                  obtain ⟨s5, t5⟩ := s4.stored (j' * 3 + 1) (.int .i64 (rAt qk (j' + 1)).r)
                  obtain ⟨s6, t6⟩ := s5.stored (j' * 3 + 2) (.int .i64 (rAt qk (j' + 1)).v)
                  rw [flat_set (qk.set (j' + 1) (rAt qk j')) j' (rAt qk (j' + 1)) (by simp; omega)] at s6
                  have bz := (((((bk4.setCell (p := ⟨g2, (j' + 1) * 3, none⟩) hg2 (.int .i64 (rAt qk j').t)).setCell (p := ⟨g2, (j' + 1) * 3 + 1, none⟩) hg2 (.int .i64 (rAt qk j').r)).setCell (p := ⟨g2, (j' + 1) * 3 + 2, none⟩) hg2 (.int .i64 (rAt qk j').v)).setCell (p := ⟨g2, j' * 3, none⟩) hg2 (.int .i64 (rAt qk (j' + 1)).t)).setCell (p := ⟨g2, j' * 3 + 1, none⟩) hg2 (.int .i64 (rAt qk (j' + 1)).r)).setCell (p := ⟨g2, j' * 3 + 2, none⟩) hg2 (.int .i64 (rAt qk (j' + 1)).v)
                  have hb7 : Hid (bubG kltR rw0 (swpG rw0 qk j') j' = bubG kltR rw0 q1 out.length) := by
                    have h1 := hbub.out
                    rw [bubG, if_pos (show kltR (qk.getD (j' + 1) rw0) (qk.getD j' rw0) = true from HK.out)] at h1
                    exact h1
                  clear t1 t2 t3 t4 t5 t6 s1 s2 s3 s4 s5
                  go_wp2
                  go_roundw
                  case rel => exact ⟨j', swpG rw0 qk j', by omega, by rw [swpG_length]; exact hql, by go_num, hb7, bz.alloc (by simp; omega) _, s6.alloc _⟩
                  case measure => simp [intOf]
                · have hkf : klB (rAt qk (j' + 1)).t (rAt qk (j' + 1)).r (rAt qk j').t (rAt qk j').r = false := by simpa using hkl
                  have hbe : Hid (qk = rowsL l (k + 1)) := by
                    have h1 := hbub.out
                    rw [bubG, if_neg (show ¬ kltR (qk.getD (j' + 1) rw0) (qk.getD j' rw0) = true from hkl)] at h1
                    show _ = _
                    rw [h1, hrr.out]
                  clear hkl hbub
                  go_wp2_with fail
                  refine wp_region_quiet_below (by kernel_rfl) (by kernel_rfl) ?_
                  repeat (go_big_quiet_step (first | (go_at_call 99; exact Calls.regrown_of (specKeyLess_any _ _ _ _ _))))
                  refine wpQuiet_nil ?_
                  intro w4 hw4
                  obtain ⟨⟨dq, osq⟩, hw5⟩ := hw4
                  have hb4 : Below _ _ w4 := hw5 ▸ below_regrown _ dq osq
                  clear hw5 m0 m1 m3 m4
                  have hO4 := owns_keep hOk fun g hg hgl => hb4.block g hgl
                  go_wp2
                  go_roundw
                  case rel => exact ⟨k + 1, qk, by omega, by go_num, hbe, by omega, hbk.trans (hb4.mono hbk.size), by rw [hql]; exact hO4⟩
                  case measure => simp [intOf]; omega
    · have hkl : k = l.length := by omega
      subst hkl
      go_wp2
      refine bodyPost_ret (v := _) (by simp [results, Tryz.results84, go_sem]; rfl) rfl ⟨_, rfl, ?_, hb⟩
      rw [← hout.out]
      exact hO

end Go.Proofs.YtmecbppblbmchaaGreatDoor
