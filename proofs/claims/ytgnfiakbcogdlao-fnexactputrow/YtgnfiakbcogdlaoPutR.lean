/- A map of rows: what it holds; (impl.rows).put; rows in order are told by their values. -/
import Derived.Test.YtgnfiakbcogdlaoSortR
import Derived.Test.YtgnfiakbcogdlaoR2v
import Derived.Test.YtgnfiakbcogdlaoRApp
namespace Go.Proofs.Ytgnfiakbcogdlao
open Go.ChangeShapes Go.WideShapes Go.ChangeAt Go.RowKit Go.Sort Go.Maps Go.Deep Go.Joins
set_option linter.unusedVariables false
set_option maxRecDepth 100000
attribute [local go_sem ↓] Go.wp_at_zero Go.wp_at_succ

def del2 (f : Int → Int → Option Value) (t r : Int) : Int → Int → Option Value := fun t' r' => if t' = t ∧ r' = r then none else f t' r'
theorem At.del {D : DataW Value} {f : Int → Int → Option Value} (h : At D f) {t r : Int} (ht : wf t) (hr : wf r) : At (D.del (klit t r)) (del2 f t r) := by
  refine ⟨h.1.del _, fun t' r' ht' hr' z => ?_⟩
  by_cases e : t' = t ∧ r' = r
  · obtain ⟨rfl, rfl⟩ := e
    rw [atKey_del_same]
    simp [del2]
  · rw [atKey_del_other (fun e' => e (klit_inj ht' hr' ht hr e')), h.2 t' r' ht' hr' z]
    simp [del2, e]

theorem gb_tr' {a b c : World} {row : Option Nat} (h : a.grownBy b row) (k : b.grownBy c row) : a.grownBy c row :=
  ⟨k.os.trans h.os, k.tape.trans h.tape, k.output.trans h.output, Nat.le_trans h.size k.size, fun j hj hne => (k.block j (Nat.lt_of_lt_of_le hj h.size) hne).trans (h.block j hj hne)⟩

/-- What a map says of rows whose values are m; those that have 0 are not in it. -/
def mf (m : Int → Int → Int) : Int → Int → Option Value := fun t r => if m t r = 0 then none else some (.int .i64 (m t r))
def updM (m : Int → Int → Int) (t r v : Int) : Int → Int → Int := fun t' r' => if t' = t ∧ r' = r then v else m t' r'

/-- Block b is a map of rows of the values m. -/
def RMap (w : World) (b n : Nat) (m : Int → Int → Int) : Prop := ∃ D, w.ownsMap Try.prog 29 KV b n D ∧ At D (mf m)
theorem ownsMap_of_block {w x : World} {b n : Nat} {D : DataW Value} (h : w.ownsMap Try.prog 29 KV b n D) (e : x.heap[b]? = w.heap[b]?) : x.ownsMap Try.prog 29 KV b n D := by
  obtain ⟨es, clock, hb, Ft, hs, hD⟩ := h
  exact ⟨es, clock, e.trans hb, Ft, hs, hD⟩
theorem RMap.of_block {w x : World} {b n : Nat} {m : Int → Int → Int} (h : RMap w b n m) (e : x.heap[b]? = w.heap[b]?) : RMap x b n m := by
  obtain ⟨D, h1, h2⟩ := h
  exact ⟨D, ownsMap_of_block h1 e, h2⟩
theorem RMap.lt {w : World} {b n : Nat} {m : Int → Int → Int} (h : RMap w b n m) : b < w.heap.size := by obtain ⟨D, h1, _⟩ := h; exact h1.lt
theorem RMap.look {w : World} {b n : Nat} {m : Int → Int → Int} (h : RMap w b n m) {t r : Int} (ht : wf t) (hr : wf r) :
    (Instr.lookup 80 (.map (some b)) (.agg #[.int .i64 t, .int .i64 r]) false).run Try.prog w = .ok (.int .i64 (m t r)) w := by
  obtain ⟨D, h1, h2⟩ := h
  rw [look_int h1 h2 ht hr]
  unfold mf
  by_cases e : m t r = 0
  · rw [if_pos e]; simp [e]
  · rw [if_neg e]; simp

set_option maxHeartbeats 1000000 in
theorem rowsPut_own (b n : Nat) (m : Int → Int → Int) (t r v : Int) (w : World) (h : RMap w b n m) (hn : n < 4611686018427387904) (ht : wf t) (hr : wf r) :
    Calls Try.prog 43 #[.map (some b), .agg #[.int .i64 t, .int .i64 r], .int .i64 v] w fun e w' => e = .returned (.tuple #[]) ∧ RMap w' b (n + 1) (updM m t r v) ∧ w.grownBy w' (some b) := by
  obtain ⟨D, hown, hat⟩ := h
  have hlt := hown.lt
  have hbx : w.grownBy (w.alloc (Obj.cells #[Value.int IntKind.i64 t, Value.int IntKind.i64 r] 29)) (some b) := World.grownBy_alloc _ _ _
  have ka := hat.del ht hr
  by_cases hv : v = 0
  · have hv' : (v != 0) = false := by simp [hv]
    have hm : del2 (mf m) t r = mf (updM m t r v) := by
      funext t' r'
      unfold del2 mf updM
      by_cases e : t' = t ∧ r' = r
      · simp [e, hv]
      · simp [e]
    rw [hm] at ka
    have HV : Hid (v = 0) := hv
    clear hm hv
    go_enter Try.func43, Try.ntmps43
    go_wp2_with (at_delete; refine wpList_delete_own _ rfl _ _ 80 29 rfl 3 mlaw Try.underlying80 KV b n D rfl (hown.alloc _) _ _ rfl (key_is ht hr) ?_; intro w1 hown1 hturn1)
    refine bodyPost_end (v := .tuple #[]) (by simp [results, Try.results43, go_sem]) rfl ⟨rfl, ⟨_, hown1.mono (Nat.le_succ _), ka⟩, ?_⟩
    exact gb_tr' hbx hturn1.grown
  · have hv' : (v != 0) = true := by simp [hv]
    have hm : put2 (del2 (mf m) t r) t r (.int .i64 v) = mf (updM m t r v) := by
      funext t' r'
      unfold put2 del2 mf updM
      by_cases e : t' = t ∧ r' = r
      · simp [e, hv]
      · simp [e]
    have ka2 := ka.put ht hr (.int .i64 v)
    rw [hm] at ka2
    clear hm
    go_enter Try.func43, Try.ntmps43
    go_wp2_with (first
      | (at_delete; refine wpList_delete_own _ rfl _ _ 80 29 rfl 3 mlaw Try.underlying80 KV b n D rfl (hown.alloc _) _ _ rfl (key_is ht hr) ?_; intro w1 hown1 hturn1; have g1 := hturn1.grown; have x0 : w1.cell? ⟨w.heap.size, 0, none⟩ = some (.int .i64 t) := (g1.cell_far _ (by simp) (by intro e; injection e with e; simp at e; omega)).trans (by simp [go_sem]); have x1 : w1.cell? ⟨w.heap.size, 1, none⟩ = some (.int .i64 r) := (g1.cell_far _ (by simp) (by intro e; injection e with e; simp at e; omega)).trans (by simp [go_sem]))
      | (at_mapUpdate; refine wpList_mapUpdate_own _ rfl _ _ _ 80 rfl 29 3 mlaw Try.underlying80 KV b n _ rfl hown1 (by unfold maxLen; omega) _ _ _ rfl rfl (key_is ht hr) _ [] rfl ?_; intro w2 hown2 hgrow2))
    refine bodyPost_end (v := .tuple #[]) (by simp [results, Try.results43, go_sem]) rfl ⟨rfl, ⟨_, hown2, ka2⟩, ?_⟩
    exact gb_tr' hbx (gb_tr' hturn1.grown hgrow2)

/-! ### Rows in order, told by their values -/

def ascR (l : List Rw) : Prop := l.Pairwise fun x y => klB x.t x.r y.t y.r = true
def nzR (l : List Rw) : Prop := ∀ x ∈ l, x.v ≠ 0

theorem rowOfF_absent {t r : Int} {l : List Rw} (h : ∀ x ∈ l, ¬ (x.t = t ∧ x.r = r)) : rowOfF t r l = 0 := by
  induction l with
  | nil => rfl
  | cons x l ih => simp only [rowOfF]; rw [if_neg (h x (List.mem_cons_self ..)), ih fun y hy => h y (List.mem_cons_of_mem _ hy)]

theorem klB_ne {a b c d : Int} (h : klB a b c d = true) : ¬ (c = a ∧ d = b) := by rw [klB_iff] at h; omega
theorem klB_tri {a b c d : Int} (h1 : ¬ klB a b c d = true) (h2 : ¬ klB c d a b = true) : a = c ∧ b = d := by rw [klB_iff] at h1 h2; omega

theorem ascR.tail_abs {x : Rw} {l : List Rw} (h : ascR (x :: l)) : rowOfF x.t x.r l = 0 := rowOfF_absent fun y hy => klB_ne ((List.pairwise_cons.1 h).1 y hy)
theorem ascR.head_abs {x : Rw} {l : List Rw} (h : ascR l) {t r : Int} (hx : l.head? = some x) (hk : klB t r x.t x.r = true) : rowOfF t r l = 0 := by
  cases l with
  | nil => simp at hx
  | cons y l =>
    simp at hx
    subst hx
    refine rowOfF_absent fun z hz => ?_
    rcases List.mem_cons.1 hz with rfl | hz
    · exact klB_ne hk
    · exact klB_ne (klB_trans hk ((List.pairwise_cons.1 h).1 z hz))

theorem rows_one : ∀ {l l' : List Rw}, ascR l → ascR l' → nzR l → nzR l' → (∀ x ∈ l, wf x.t ∧ wf x.r) → (∀ x ∈ l', wf x.t ∧ wf x.r) → (∀ t r, wf t → wf r → rowOfF t r l = rowOfF t r l') → l = l'
  | [], [], _, _, _, _, _, _, _ => rfl
  | [], y :: l', _, h2, _, n2, _, wy, h => by
    obtain ⟨w1, w2⟩ := wy y (List.mem_cons_self ..)
    have := h y.t y.r w1 w2
    simp only [rowOfF] at this
    rw [if_pos ⟨trivial, trivial⟩] at this
    exact absurd this.symm (n2 y (List.mem_cons_self ..))
  | x :: l, [], h1, _, n1, _, wx, _, h => by
    obtain ⟨w1, w2⟩ := wx x (List.mem_cons_self ..)
    have := h x.t x.r w1 w2
    simp only [rowOfF] at this
    rw [if_pos ⟨trivial, trivial⟩] at this
    exact absurd this (n1 x (List.mem_cons_self ..))
  | x :: l, y :: l', h1, h2, n1, n2, wx, wy, h => by
    obtain ⟨wx1, wx2⟩ := wx x (List.mem_cons_self ..)
    obtain ⟨wy1, wy2⟩ := wy y (List.mem_cons_self ..)
    have hx : rowOfF x.t x.r (x :: l) = x.v := by simp only [rowOfF]; rw [if_pos ⟨trivial, trivial⟩]
    have hy : rowOfF y.t y.r (y :: l') = y.v := by simp only [rowOfF]; rw [if_pos ⟨trivial, trivial⟩]
    have k1 : ¬ klB x.t x.r y.t y.r = true := fun k => by
      have := ascR.head_abs h2 rfl k
      rw [← h x.t x.r wx1 wx2, hx] at this
      exact n1 x (List.mem_cons_self ..) this
    have k2 : ¬ klB y.t y.r x.t x.r = true := fun k => by
      have := ascR.head_abs h1 rfl k
      rw [h y.t y.r wy1 wy2, hy] at this
      exact n2 y (List.mem_cons_self ..) this
    obtain ⟨e1, e2⟩ := klB_tri k1 k2
    have e3 : x.v = y.v := by
      have := h x.t x.r wx1 wx2
      rw [hx, e1, e2, hy] at this
      exact this
    have exy : x = y := by cases x; cases y; simp_all
    subst exy
    congr 1
    refine rows_one (List.pairwise_cons.1 h1).2 (List.pairwise_cons.1 h2).2 (fun z hz => n1 z (List.mem_cons_of_mem _ hz)) (fun z hz => n2 z (List.mem_cons_of_mem _ hz)) (fun z hz => wx z (List.mem_cons_of_mem _ hz)) (fun z hz => wy z (List.mem_cons_of_mem _ hz)) fun t r wt wr => ?_
    by_cases e : x.t = t ∧ x.r = r
    · obtain ⟨rfl, rfl⟩ := e
      rw [ascR.tail_abs h1, ascR.tail_abs h2]
    · have := h t r wt wr
      simp only [rowOfF] at this
      rw [if_neg e, if_neg e] at this
      exact this

end Go.Proofs.Ytgnfiakbcogdlao
