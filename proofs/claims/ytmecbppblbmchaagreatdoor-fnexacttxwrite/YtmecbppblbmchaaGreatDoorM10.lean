import Derived.Test.YtmecbppblbmchaaGreatDoorM9
/- Marks: markMgr, and what is held: heldTxS, heldEvS, heldMgr. -/
namespace Go.Proofs.YtmecbppblbmchaaGreatDoor
open Go.ChangeShapes Go.WideShapes Go.ChangeAt Go.RowKit Go.Sort
set_option linter.unusedVariables false
set_option maxRecDepth 100000
attribute [local go_sem ↓] Go.wp_at_zero Go.wp_at_succ

theorem heldRowS_kk (v : Value) (n : Nat) (x : Int) (k : Nat) (hx : x = (k : Int)) (w : World) (h : Kr w 111 3 v n k) (hn : n ≤ 1048580) (hk : k ≤ 4611686018427387904) :
    Calls Tryz.prog 78 #[v, .int .i64 x] w fun e w' => e = .returned (.int .i64 ((k + 3 * n : Nat) : Int)) ∧ w' = w := by
  subst hx
  rcases h with ⟨rfl, rfl⟩ | ⟨B, c, rfl, hr⟩
  · go_enter Tryz.func78, Tryz.ntmps78
    go_wp2
    refine wp_loop_rounds 1 ?_
    rw [rounds_succ]
    go_wp2
    go_ret
    exact ⟨rfl, rfl⟩
  · go_enter Tryz.func78, Tryz.ntmps78
    go_wp2
    go_loop [1, 5] (fun x i => ∃ q : Nat, q ≤ n ∧ i = .int .i64 q ∧ x = .int .i64 ((k + 3 * q : Nat) : Int)) (fun _ i => n - (intOf i).toNat)
    case atStart => exact ⟨0, Nat.zero_le _, rfl, rfl⟩
    case round =>
      obtain ⟨q, hq, rfl, rfl⟩ := hrel
      by_cases hlt : q < n
      · have z0 : w.cell? ⟨B, q * 3, none⟩ = some (.int .i64 (↑k + 3 * ↑q)) := by rw [hr.cell (by omega)]; simp; omega
        have z1 : w.cell? ⟨B, q * 3 + 1, none⟩ = some (.int .i64 (↑k + 3 * ↑q + 1)) := by rw [hr.cell (by omega)]; simp; omega
        have z2 : w.cell? ⟨B, q * 3 + 2, none⟩ = some (.int .i64 (↑k + 3 * ↑q + 1 + 1)) := by rw [hr.cell (by omega)]; simp; omega
        go_wp2
        go_round
        case rel => exact ⟨q + 1, by omega, by go_num, by go_num⟩
        case measure => simp [intOf]; omega
      · have hqm : q = n := by omega
        subst hqm
        go_wp2
        go_ret
        exact ⟨rfl, rfl⟩

set_option maxHeartbeats 1000000 in
theorem heldEvS_kk (v : Value) (n : Nat) (x : Int) (k : Nat) (hx : x = (k : Int)) (w : World) (h : Kr w 101 6 v n k) (hn : n ≤ 1048580) (hk : k ≤ 4611686018427387904) :
    Calls Tryz.prog 44 #[v, .int .i64 x] w fun e w' => e = .returned (.int .i64 ((k + 6 * n : Nat) : Int)) ∧ w' = w := by
  subst hx
  rcases h with ⟨rfl, rfl⟩ | ⟨B, c, rfl, hr⟩
  · go_enter Tryz.func44, Tryz.ntmps44
    go_wp2
    refine wp_loop_rounds 1 ?_
    rw [rounds_succ]
    go_wp2
    go_ret
    exact ⟨rfl, rfl⟩
  · go_enter Tryz.func44, Tryz.ntmps44
    go_wp2
    go_loop [1, 5] (fun x i => ∃ q : Nat, q ≤ n ∧ i = .int .i64 q ∧ x = .int .i64 ((k + 6 * q : Nat) : Int)) (fun _ i => n - (intOf i).toNat)
    case atStart => exact ⟨0, Nat.zero_le _, rfl, rfl⟩
    case round =>
      obtain ⟨q, hq, rfl, rfl⟩ := hrel
      by_cases hlt : q < n
      · have z0 : w.cell? ⟨B, q * 6, none⟩ = some (.int .i64 (↑k + 6 * ↑q)) := by rw [hr.cell (by omega)]; simp; omega
        have z1 : w.cell? ⟨B, q * 6 + 1, none⟩ = some (.int .i64 (↑k + 6 * ↑q + 1)) := by rw [hr.cell (by omega)]; simp; omega
        have z2 : w.cell? ⟨B, q * 6 + 2, none⟩ = some (.int .i64 (↑k + 6 * ↑q + 1 + 1)) := by rw [hr.cell (by omega)]; simp; omega
        have z3 : w.cell? ⟨B, q * 6 + 3, none⟩ = some (.int .i64 (↑k + 6 * ↑q + 1 + 1 + 1)) := by rw [hr.cell (by omega)]; simp; omega
        have z4 : w.cell? ⟨B, q * 6 + 4, none⟩ = some (.int .i64 (↑k + 6 * ↑q + 1 + 1 + 1 + 1)) := by rw [hr.cell (by omega)]; simp; omega
        have z5 : w.cell? ⟨B, q * 6 + 5, none⟩ = some (.int .i64 (↑k + 6 * ↑q + 1 + 1 + 1 + 1 + 1)) := by rw [hr.cell (by omega)]; simp; omega
        go_wp2
        go_round
        case rel => exact ⟨q + 1, by omega, by go_num, by go_num⟩
        case measure => simp [intOf]; omega
      · have hqm : q = n := by omega
        subst hqm
        go_wp2
        go_ret
        exact ⟨rfl, rfl⟩

set_option maxHeartbeats 1000000 in
theorem heldTxS_kk (vt : Value) (n : Nat) (wv : Nat → Value) (ln : Nat → Nat) (x : Int) (k : Nat) (hx : x = (k : Int)) (w : World) (h : TxK w vt n wv ln k) (hn : n ≤ 1048580) (hl : ∀ i, i < n → ln i ≤ 1048580) (hk : k ≤ 1000000000000000000) :
    Calls Tryz.prog 43 #[vt, .int .i64 x] w fun e w' => e = .returned (.int .i64 ((k + tk ln n : Nat) : Int)) ∧ w' = w := by
  subst hx
  rcases h with ⟨rfl, rfl⟩ | ⟨B, c, f, rfl, hr, hf⟩
  · go_enter Tryz.func43, Tryz.ntmps43
    go_wp2
    refine wp_loop_rounds 1 ?_
    rw [rounds_succ]
    go_wp2
    go_ret
    exact ⟨rfl, rfl⟩
  · go_enter Tryz.func43, Tryz.ntmps43
    go_wp2
    go_loop [1, 5] (fun x i => ∃ q : Nat, q ≤ n ∧ i = .int .i64 q ∧ x = .int .i64 ((k + tk ln q : Nat) : Int)) (fun _ i => n - (intOf i).toNat)
    case atStart => exact ⟨0, Nat.zero_le _, rfl, by simp [tk]⟩
    case round =>
      obtain ⟨q, hq, rfl, rfl⟩ := hrel
      by_cases hlt : q < n
      · obtain ⟨g0, g1, g2, g3⟩ := hf q hlt
        have hb := tk_le (n := n) hl q (by omega)
        have hlq := hl q hlt
        have z0 : w.cell? ⟨B, q * 3, none⟩ = some (.int .i64 (↑k + ↑(tk ln q))) := by rw [hr.cell (by omega), g0]; push_cast; rfl
        have z1 : w.cell? ⟨B, q * 3 + 1, none⟩ = some (.int .i64 (↑k + ↑(tk ln q) + 1)) := by rw [hr.cell (by omega), g1]; push_cast; rfl
        have z2 : w.cell? ⟨B, q * 3 + 2, none⟩ = some (wv q) := by rw [hr.cell (by omega), g2]
        clear g0 g1 g2
        go_wp2_with fail
        refine (heldRowS_kk (wv q) (ln q) _ (k + tk ln q + 2) (by push_cast; omega) _ g3 hlq (by omega)).mono ?_
        rintro e w2 ⟨rfl, rfl⟩
        have hnn : ¬ ((k + tk ln q + 2 + 3 * ln q : Nat) : Int) < 0 := by omega
        have hE : ((k + tk ln q + 2 + 3 * ln q : Nat) : Int) = ((k + tk ln (q + 1) : Nat) : Int) := by simp only [tk]; push_cast; omega
        generalize ((k + tk ln q + 2 + 3 * ln q : Nat) : Int) = kk at hnn hE ⊢
        go_wp2
        go_round
        case rel => exact ⟨q + 1, by omega, by go_num, by first | rw [hE] | (push_cast; rfl)⟩
        case measure => simp [intOf]; omega
      · have hqm : q = n := by omega
        subst hqm
        go_wp2
        go_ret
        exact ⟨rfl, rfl⟩

/-- The store bears its marks, within its blocks. -/
def MarkedT2 (s0 s1 : Nat) (w : World) (v : Value) (l : List Ch) : Prop := (v = .slice none 0 0 ∧ l = []) ∨ ∃ b Bs cap, v = .slice (some ⟨b, 0, none⟩) l.length cap ∧ s0 ≤ b ∧ b < s1 ∧ (∀ i, i < l.length → s0 ≤ Bs i ∧ Bs i < s1) ∧ MarkedC s0 s1 w b Bs l 1 l.length
theorem MarkedT2.keep {s0 s1 : Nat} {w w' : World} {v : Value} {l : List Ch} (h : MarkedT2 s0 s1 w v l) (hs : ∀ k, s0 ≤ k → k < s1 → k < w.heap.size → w'.heap[k]? = w.heap[k]?) : MarkedT2 s0 s1 w' v l := by
  rcases h with h | ⟨b, Bs, cap, h, h1, h2, h3, f, h4, h5⟩
  · exact .inl h
  · refine .inr ⟨b, Bs, cap, h, h1, h2, h3, f, h4.of_block (hs b h1 h2 h4.lt), fun i hi => ?_⟩
    obtain ⟨g1, g, g2, g3⟩ := h5 i hi
    exact ⟨g1, g, g2.of_block (hs _ (h3 i hi).1 (h3 i hi).2 g2.lt), g3⟩
theorem markT2_any (v : Value) (l : List Ch) (w : World) {lo hi : Nat} (h : OwnT lo hi w v l) (hn : Small l) (hhi : hi ≤ w.heap.size) :
    Calls Tryz.prog 39 #[.agg #[v], .int .i64 1] w fun e w' => e = .returned (.int .i64 ((1 + mk l l.length : Nat) : Int)) ∧ (∀ x, ¬ (lo ≤ x ∧ x < hi) → x < w.heap.size → w'.heap[x]? = w.heap[x]?) ∧ w'.os = w.os ∧ w'.tape = w.tape ∧ w'.output = w.output ∧ w.heap.size ≤ w'.heap.size ∧ MarkedT2 lo hi w' v l := by
  rcases h with ⟨rfl, rfl⟩ | ⟨b, Bs, cap, rfl, ho⟩
  · refine (markStore_nil 1 w).mono ?_
    rintro e w' ⟨rfl, hb⟩
    exact ⟨rfl, fun x _ hx => hb.block x hx, hb.os, hb.tape, hb.output, hb.size, .inl ⟨rfl, rfl⟩⟩
  · refine (markStore_any b Bs l cap 1 w ho hn (by omega) hhi).mono ?_
    rintro e w' ⟨rfl, h1, h2, h3, h4, h5, h6⟩
    obtain ⟨o1, o2, f, _, o3, _⟩ := ho
    exact ⟨rfl, h1, h2, h3, h4, h5, .inr ⟨b, Bs, cap, rfl, o1, o2, fun i hi => ⟨(o3 i hi).2.2.2.2.1, (o3 i hi).2.2.2.2.2.1⟩, h6⟩⟩
theorem heldT2_any (v : Value) (l : List Ch) (w : World) {lo hi : Nat} (h : MarkedT2 lo hi w v l) (hn : Small l) :
    Calls Tryz.prog 42 #[.agg #[v], .int .i64 1] w fun e w' => e = .returned (.int .i64 ((1 + mk l l.length : Nat) : Int)) ∧ Below w.heap.size w w' := by
  rcases h with ⟨rfl, rfl⟩ | ⟨b, Bs, cap, rfl, _, _, _, hm⟩
  · exact heldStore_nil 1 w
  · exact heldStore_any b Bs l cap 1 w (fun o => hm.stays (below_alloc w o)) hn (by omega)

/-- A whole that may be written: all its blocks lie from lo on and ahead of hi. -/
structure WrM (w : World) (lo hi s0 s1 : Nat) (vs vt ve : Value) (m : Md) (wv : Nat → Value) : Prop where
  s : OwnT s0 s1 w vs m.s
  sl : lo ≤ s0
  sh : s1 ≤ hi
  x : TxW w vt m.x.length wv (fun i => (tAt m.x i).w.length)
  h : Rr w 101 6 ve m.h.length
  far : ∀ b, (vt.ownBlock = some b ∨ ∃ i, i < m.x.length ∧ (wv i).ownBlock = some b) → (lo ≤ b ∧ b < hi) ∧ ¬ (s0 ≤ b ∧ b < s1)
  farE : ∀ b, ve.ownBlock = some b → (lo ≤ b ∧ b < hi) ∧ ¬ (s0 ≤ b ∧ b < s1)
  xe : ∀ b, (vt.ownBlock = some b ∨ ∃ i, i < m.x.length ∧ (wv i).ownBlock = some b) → ve.ownBlock ≠ some b
  top : hi ≤ w.heap.size
theorem TxW.keep {w w' : World} {vt : Value} {n : Nat} {wv : Nat → Value} {ln : Nat → Nat} (h : TxW w vt n wv ln) (hk : ∀ b, (vt.ownBlock = some b ∨ ∃ i, i < n ∧ (wv i).ownBlock = some b) → b < w.heap.size → w'.heap[b]? = w.heap[b]?) : TxW w' vt n wv ln := by
  rcases h with h | ⟨g, c, f, rfl, h1, h2, h3, h4, h5⟩
  · exact .inl h
  · exact .inr ⟨g, c, f, rfl, h1.of_block (hk g (.inl rfl) h1.lt), h2, fun i hi => (h3 i hi).keep fun b hb hl => hk b (.inr ⟨i, hi, hb⟩) hl, h4, h5⟩
theorem TxK.keep {w w' : World} {vt : Value} {n : Nat} {wv : Nat → Value} {ln : Nat → Nat} {k : Nat} (h : TxK w vt n wv ln k) (hk : ∀ b, (vt.ownBlock = some b ∨ ∃ i, i < n ∧ (wv i).ownBlock = some b) → b < w.heap.size → w'.heap[b]? = w.heap[b]?) : TxK w' vt n wv ln k := by
  rcases h with h | ⟨g, c, f, rfl, h1, h2⟩
  · exact .inl h
  · exact .inr ⟨g, c, f, rfl, h1.of_block (hk g (.inl rfl) h1.lt), fun i hi => ⟨(h2 i hi).1, (h2 i hi).2.1, (h2 i hi).2.2.1, (h2 i hi).2.2.2.keep fun b hb hl => hk b (.inr ⟨i, hi, hb⟩) hl⟩⟩
theorem WrM.keep {w w' : World} {lo hi s0 s1 : Nat} {vs vt ve : Value} {m : Md} {wv : Nat → Value} (h : WrM w lo hi s0 s1 vs vt ve m wv) (hk : ∀ k, lo ≤ k → k < hi → k < w.heap.size → w'.heap[k]? = w.heap[k]?) (hz : w.heap.size ≤ w'.heap.size) : WrM w' lo hi s0 s1 vs vt ve m wv :=
  ⟨h.s.keep fun k h1 h2 h3 => hk k (by have := h.sl; omega) (by have := h.sh; omega) h3, h.sl, h.sh, h.x.keep fun b hb hl => hk b (h.far b hb).1.1 (h.far b hb).1.2 hl, h.h.keep fun b hb hl => hk b (h.farE b hb).1.1 (h.farE b hb).1.2 hl, h.far, h.farE, h.xe, by have := h.top; omega⟩
theorem WrM.stays {w w' : World} {lo hi s0 s1 : Nat} {vs vt ve : Value} {m : Md} {wv : Nat → Value} (h : WrM w lo hi s0 s1 vs vt ve m wv) (hb : Below w.heap.size w w') : WrM w' lo hi s0 s1 vs vt ve m wv := h.keep (fun k _ _ hl => hb.block k hl) hb.size
/-- The whole bears its marks from 1 on. -/
structure KM (w : World) (lo hi s0 s1 : Nat) (vs vt ve : Value) (m : Md) (wv : Nat → Value) : Prop where
  s : MarkedT2 s0 s1 w vs m.s
  sl : lo ≤ s0
  sh : s1 ≤ hi
  x : TxK w vt m.x.length wv (fun i => (tAt m.x i).w.length) (1 + mk m.s m.s.length)
  h : Kr w 101 6 ve m.h.length (1 + mk m.s m.s.length + tk (fun i => (tAt m.x i).w.length) m.x.length)
  far : ∀ b, (vt.ownBlock = some b ∨ ∃ i, i < m.x.length ∧ (wv i).ownBlock = some b) → lo ≤ b ∧ b < hi
  farE : ∀ b, ve.ownBlock = some b → lo ≤ b ∧ b < hi
theorem KM.keep {w w' : World} {lo hi s0 s1 : Nat} {vs vt ve : Value} {m : Md} {wv : Nat → Value} (h : KM w lo hi s0 s1 vs vt ve m wv) (hk : ∀ k, lo ≤ k → k < hi → k < w.heap.size → w'.heap[k]? = w.heap[k]?) : KM w' lo hi s0 s1 vs vt ve m wv :=
  ⟨h.s.keep fun k h1 h2 h3 => hk k (by have := h.sl; omega) (by have := h.sh; omega) h3, h.sl, h.sh, h.x.keep fun b hb hl => hk b (h.far b hb).1 (h.far b hb).2 hl, h.h.keep fun b hb hl => hk b (h.farE b hb).1 (h.farE b hb).2 hl, h.far, h.farE⟩
theorem KM.stays {w w' : World} {lo hi s0 s1 : Nat} {vs vt ve : Value} {m : Md} {wv : Nat → Value} (h : KM w lo hi s0 s1 vs vt ve m wv) (hb : Below w.heap.size w w') : KM w' lo hi s0 s1 vs vt ve m wv := h.keep fun k _ _ hl => hb.block k hl
/-- How many marks, and one. -/
def mK (m : Md) : Nat := 1 + mk m.s m.s.length + tk (fun i => (tAt m.x i).w.length) m.x.length + 6 * m.h.length
theorem OwnT.slice {lo hi : Nat} {w : World} {v : Value} {l : List Ch} (h : OwnT lo hi w v l) : ∃ a c, v = .slice a l.length c := by
  rcases h with ⟨rfl, rfl⟩ | ⟨b, Bs, cap, rfl, _⟩
  · exact ⟨_, _, rfl⟩
  · exact ⟨_, _, rfl⟩
theorem Rr.slice {w : World} {T : TypeId} {s : Nat} {v : Value} {n : Nat} (h : Rr w T s v n) : ∃ a c, v = .slice a n c := by
  rcases h with ⟨rfl, rfl⟩ | ⟨b, cap, f, rfl, _⟩
  · exact ⟨_, _, rfl⟩
  · exact ⟨_, _, rfl⟩
theorem TxW.slice {w : World} {vt : Value} {n : Nat} {wv : Nat → Value} {ln : Nat → Nat} (h : TxW w vt n wv ln) : ∃ a c, vt = .slice a n c := by
  rcases h with ⟨rfl, rfl⟩ | ⟨b, cap, f, rfl, _⟩
  · exact ⟨_, _, rfl⟩
  · exact ⟨_, _, rfl⟩

set_option maxHeartbeats 2000000 in
theorem markMgr_any (w : World) (lo hi s0 s1 : Nat) (vs vt ve : Value) (m : Md) (wv : Nat → Value) (h : WrM w lo hi s0 s1 vs vt ve m wv) (hn : SmallM' m) :
    Calls Tryz.prog 13 #[.agg #[vs, .int .i64 m.c, .int .i64 m.n, vt, ve], .int .i64 1] w fun e w' => e = .returned (.int .i64 ((mK m : Nat) : Int)) ∧ (∀ x, ¬ (lo ≤ x ∧ x < hi) → x < w.heap.size → w'.heap[x]? = w.heap[x]?) ∧ w'.os = w.os ∧ w'.tape = w.tape ∧ w'.output = w.output ∧ w.heap.size ≤ w'.heap.size ∧ KM w' lo hi s0 s1 vs vt ve m wv := by
  obtain ⟨a1, c1, rfl⟩ := h.s.slice
  obtain ⟨a2, c2, rfl⟩ := h.x.slice
  obtain ⟨a3, c3, rfl⟩ := h.h.slice
  have bA := below_alM w (Obj.cells #[Value.slice a1 m.s.length c1, .int .i64 m.c, .int .i64 m.n, Value.slice a2 m.x.length c2, Value.slice a3 m.h.length c3] 36)
  have h1 := h.stays bA
  have x3 : (w.alloc (Obj.cells #[Value.slice a1 m.s.length c1, .int .i64 m.c, .int .i64 m.n, Value.slice a2 m.x.length c2, Value.slice a3 m.h.length c3] 36)).cell? ⟨w.heap.size, 3, none⟩ = some (.slice a2 m.x.length c2) := by simp [go_sem]
  have x4 : (w.alloc (Obj.cells #[Value.slice a1 m.s.length c1, .int .i64 m.c, .int .i64 m.n, Value.slice a2 m.x.length c2, Value.slice a3 m.h.length c3] 36)).cell? ⟨w.heap.size, 4, none⟩ = some (.slice a3 m.h.length c3) := by simp [go_sem]
  have htop := h.top
  have hxl := hn.x
  have hhl := hn.h
  have hb1 := mk_bound hn.s (Nat.le_refl m.s.length)
  have hb2 := tk_le (ln := fun i => (tAt m.x i).w.length) (n := m.x.length) hn.w m.x.length (Nat.le_refl _)
  go_enter Tryz.func13, Tryz.ntmps13
  go_wp2_with fail
  generalize w.alloc (Obj.cells #[Value.slice a1 m.s.length c1, .int .i64 m.c, .int .i64 m.n, Value.slice a2 m.x.length c2, Value.slice a3 m.h.length c3] 36) = W at *
  refine (markT2_any _ m.s _ h1.s hn.s (by have := h1.top; have := h1.sh; omega)).mono ?_
  rintro e w1 ⟨rfl, k1, o1, t1, u1, z1, M1⟩
  have hzW := bA.size
  have hwl : w.heap.size < W.heap.size := cell_lt x3
  have hsl := h.sl
  have hsh := h.sh
  have n1 : ¬ (s0 ≤ w.heap.size ∧ w.heap.size < s1) := by omega
  have y3 := cell_same (k1 w.heap.size n1 hwl) x3
  have y4 := cell_same (k1 w.heap.size n1 hwl) x4
  have X1 := h1.x.keep fun b hb hl => k1 b (h1.far b hb).2 hl
  have E1 := h1.h.keep fun b hb hl => k1 b (h1.farE b hb).2 hl
  clear x3 x4
  have hE1 : ((1 + mk m.s m.s.length : Nat) : Int) = ((1 + mk m.s m.s.length : Nat) : Int) := rfl
  generalize hk1 : 1 + mk m.s m.s.length = kk1 at *
  go_wp2_with fail
  refine (markTxS_rr _ m.x.length wv _ _ kk1 rfl _ X1 hxl hn.w (by omega)).mono ?_
  rintro e w2 ⟨rfl, hW2, X2⟩
  have n2 : ¬ ((Value.slice a2 m.x.length c2).ownBlock = some w.heap.size ∨ ∃ i, i < m.x.length ∧ (wv i).ownBlock = some w.heap.size) := fun hb => by have := (h.far _ hb).1; omega
  have v4 := cell_same (hW2.block w.heap.size n2) y4
  have E2 := E1.keep fun b hb hl => hW2.block b (fun hb' => h.xe b hb' hb)
  have M2 := M1.keep fun b h1' h2' hl => hW2.block b (fun hb' => (h.far b hb').2 ⟨h1', h2'⟩)
  have hz2 := hW2.size
  clear y3 y4
  generalize hk2 : kk1 + tk (fun i => (tAt m.x i).w.length) m.x.length = kk2 at *
  go_wp2_with fail
  refine (markEvS_rr _ m.h.length _ kk2 rfl _ E2 hhl (by omega)).mono ?_
  rintro e w3 ⟨rfl, hW3, E3⟩
  have hz3 := hW3.size
  have X3 := X2.keep fun b hb hl => hW3.block b (fun hb' => h.xe b hb hb')
  have M3 := M2.keep fun b h1' h2' hl => hW3.block b (fun hb' => (h.farE b hb').2 ⟨h1', h2'⟩)
  have hfin : kk2 + 6 * m.h.length = mK m := by simp only [mK]; omega
  rw [hfin]
  go_wp2
  go_ret
  refine ⟨rfl, fun b hb hl => ?_, (hW3.os.trans (hW2.os.trans o1)).trans bA.os, (hW3.tape.trans (hW2.tape.trans t1)).trans bA.tape, (hW3.output.trans (hW2.output.trans u1)).trans bA.output, by omega, ⟨M3, h.sl, h.sh, by rw [hk1]; exact X3, by rw [hk1, hk2]; exact E3, fun b hb => (h.far b hb).1, fun b hb => (h.farE b hb).1⟩⟩
  rw [hW3.block b (fun hb' => hb (h.farE b hb').1), hW2.block b (fun hb' => hb (h.far b hb').1), k1 b (by omega) (by omega)]
  exact bA.block b hl

set_option maxHeartbeats 2000000 in
theorem heldMgr_any (w : World) (lo hi s0 s1 : Nat) (vs vt ve : Value) (m : Md) (wv : Nat → Value) (h : KM w lo hi s0 s1 vs vt ve m wv) (hn : SmallM' m) (hs : ∃ a c, vs = .slice a m.s.length c) (ht : ∃ a c, vt = .slice a m.x.length c) (he : ∃ a c, ve = .slice a m.h.length c) :
    Calls Tryz.prog 14 #[.agg #[vs, .int .i64 m.c, .int .i64 m.n, vt, ve], .int .i64 1] w fun e w' => e = .returned (.int .i64 ((mK m : Nat) : Int)) ∧ Below w.heap.size w w' := by
  obtain ⟨a1, c1, rfl⟩ := hs
  obtain ⟨a2, c2, rfl⟩ := ht
  obtain ⟨a3, c3, rfl⟩ := he
  have bA := below_alM w (Obj.cells #[Value.slice a1 m.s.length c1, .int .i64 m.c, .int .i64 m.n, Value.slice a2 m.x.length c2, Value.slice a3 m.h.length c3] 36)
  have h1 := h.stays bA
  have x3 : (w.alloc (Obj.cells #[Value.slice a1 m.s.length c1, .int .i64 m.c, .int .i64 m.n, Value.slice a2 m.x.length c2, Value.slice a3 m.h.length c3] 36)).cell? ⟨w.heap.size, 3, none⟩ = some (.slice a2 m.x.length c2) := by simp [go_sem]
  have x4 : (w.alloc (Obj.cells #[Value.slice a1 m.s.length c1, .int .i64 m.c, .int .i64 m.n, Value.slice a2 m.x.length c2, Value.slice a3 m.h.length c3] 36)).cell? ⟨w.heap.size, 4, none⟩ = some (.slice a3 m.h.length c3) := by simp [go_sem]
  have hxl := hn.x
  have hhl := hn.h
  have hb1 := mk_bound hn.s (Nat.le_refl m.s.length)
  have hb2 := tk_le (ln := fun i => (tAt m.x i).w.length) (n := m.x.length) hn.w m.x.length (Nat.le_refl _)
  go_enter Tryz.func14, Tryz.ntmps14
  go_wp2_with fail
  generalize w.alloc (Obj.cells #[Value.slice a1 m.s.length c1, .int .i64 m.c, .int .i64 m.n, Value.slice a2 m.x.length c2, Value.slice a3 m.h.length c3] 36) = W at *
  refine (heldT2_any _ m.s _ h1.s hn.s).mono ?_
  rintro e w1 ⟨rfl, hb1'⟩
  have h2 := h1.stays hb1'
  have y3 := cell_stays hb1' x3
  have y4 := cell_stays hb1' x4
  have b1 := bA.trans (hb1'.mono bA.size)
  clear x3 x4 h1 bA hb1'
  have X2 := h2.x
  have E2 := h2.h
  generalize hk1 : 1 + mk m.s m.s.length = kk1 at *
  have hn1 : ¬ ((kk1 : Nat) : Int) < 0 := by omega
  go_wp2_with fail
  refine (heldTxS_kk _ m.x.length wv _ _ kk1 rfl _ X2 hxl hn.w (by omega)).mono ?_
  rintro e w2 ⟨rfl, rfl⟩
  generalize hk2 : kk1 + tk (fun i => (tAt m.x i).w.length) m.x.length = kk2 at *
  have hn2 : ¬ ((kk2 : Nat) : Int) < 0 := by omega
  go_wp2_with fail
  refine (heldEvS_kk _ m.h.length _ kk2 rfl _ E2 hhl (by omega)).mono ?_
  rintro e w3 ⟨rfl, rfl⟩
  have hfin : kk2 + 6 * m.h.length = mK m := by simp only [mK]; omega
  rw [hfin]
  have hn3 : ¬ ((mK m : Nat) : Int) < 0 := by omega
  go_wp2
  go_ret
  exact ⟨rfl, b1⟩
end Go.Proofs.YtmecbppblbmchaaGreatDoor
