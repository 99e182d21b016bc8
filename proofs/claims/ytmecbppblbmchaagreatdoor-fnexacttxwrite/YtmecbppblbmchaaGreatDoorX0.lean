import Derived.Test.YtmecbppblbmchaaGreatDoorMOk3
import Derived.Test.YtmecbppblbmchaaGreatDoorM5
/- Which transaction is meant: spec.l2tx and impl.underWay. -/
namespace Go.Proofs.YtmecbppblbmchaaGreatDoor
open Go.ChangeShapes Go.WideShapes Go.ChangeAt Go.RowKit Go.Sort
set_option linter.unusedVariables false
set_option maxRecDepth 100000
attribute [local go_sem ↓] Go.wp_at_zero Go.wp_at_succ

/-- The i-th transaction is the first one of that number. -/
def IsTx (m : Md) (tx : Int) (i : Nat) : Prop := i < m.x.length ∧ (tAt m.x i).i = tx ∧ ∀ j, j < i → (tAt m.x j).i ≠ tx
def NoTx (m : Md) (tx : Int) : Prop := ∀ i, i < m.x.length → (tAt m.x i).i ≠ tx
theorem IsTx.one {m : Md} {tx : Int} {i j : Nat} (hi : IsTx m tx i) (hj : IsTx m tx j) : i = j := by
  rcases Nat.lt_trichotomy i j with h | h | h
  · exact absurd hi.2.1 (hj.2.2 i h)
  · exact h
  · exact absurd hj.2.1 (hi.2.2 j h)
theorem tx_either (m : Md) (tx : Int) : NoTx m tx ∨ ∃ i, IsTx m tx i := by
  have key : ∀ n, n ≤ m.x.length → (∀ j, j < n → (tAt m.x j).i ≠ tx) ∨ ∃ i, IsTx m tx i := fun n => by
    induction n with
    | zero => exact fun _ => .inl fun j hj => absurd hj (Nat.not_lt_zero _)
    | succ n ih =>
      intro hn
      rcases ih (by omega) with h | h
      · by_cases e : (tAt m.x n).i = tx
        · exact .inr ⟨n, by omega, e, h⟩
        · refine .inl fun j hj => ?_
          by_cases e' : j = n
          · exact e' ▸ e
          · exact h j (by omega)
      · exact .inr h
  exact key _ (Nat.le_refl _)

theorem l2tx_any (b : Nat) (vs vt ve : Value) (m : Md) (tx : Int) (w : World) {lo hi : Nat} (hbox : MBox w b vs m.c m.n vt ve) (h : TxsAt lo hi w vt m.x) :
    Calls Tryz.prog 45 #[.pointer (some ⟨b, 0, none⟩), .int .i64 tx] w fun e w' => (∃ x, e = .returned (.int .i64 x) ∧ ((x = -1 ∧ NoTx m tx) ∨ ∃ i : Nat, x = i ∧ IsTx m tx i)) ∧ w' = w := by
  obtain ⟨a, cap, rfl, hm, hc⟩ := h
  unfold maxLen at hm
  obtain ⟨q0, q1, q2, q3, q4⟩ := hbox
  go_enter Tryz.func45, Tryz.ntmps45
  go_wp2
  go_loop [5] (fun i => ∃ k : Nat, k ≤ m.x.length ∧ i = .int .i64 k ∧ ∀ j, j < k → (tAt m.x j).i ≠ tx) (fun i => m.x.length - (intOf i).toNat)
  case atStart => exact ⟨0, Nat.zero_le _, rfl, fun j hj => absurd hj (Nat.not_lt_zero _)⟩
  case round =>
    obtain ⟨k, hk, rfl, hs⟩ := hrel
    by_cases hlt : k < m.x.length
    · obtain ⟨bt, off, rfl, _, _, hcc⟩ := hc (by omega)
      have c0 := (hcc k hlt).1
      clear hcc hc
      by_cases he : (tAt m.x k).i = tx
      · have he' : ((tAt m.x k).i == tx) = true := by simp [he]
        have HE : Hid ((tAt m.x k).i = tx) := he
        clear he
        go_wp2
        go_ret
        exact ⟨⟨_, rfl, .inr ⟨k, rfl, hlt, HE.out, hs⟩⟩, rfl⟩
      · have he' : ((tAt m.x k).i == tx) = false := by rw [beq_eq_false_iff_ne]; exact he
        have hn := upto_succ hs he
        clear he hs
        go_wp2
        go_round
        case rel => exact ⟨k + 1, by omega, by go_num, hn⟩
        case measure => simp [intOf]; omega
    · clear hc
      go_wp2
      go_ret
      exact ⟨⟨_, rfl, .inl ⟨rfl, fun i hi => hs i (by omega)⟩⟩, rfl⟩

/-- What underWay answers. -/
def UAns (m : Md) (tx : Int) (a : Option Addr) (e : Ending) : Prop :=
  (mgrOk m ∧ ∃ i bt off, IsTx m tx i ∧ a = some ⟨bt, off, none⟩ ∧ e = .returned (.tuple #[.pointer (some ⟨bt, off + i * 3, none⟩), .nilIface])) ∨
  ((¬ mgrOk m ∨ NoTx m tx) ∧ e = .returned (.tuple #[.pointer none, .iface 113 (.agg #[.int .i64 1])]))

set_option maxHeartbeats 1000000 in
theorem underWay_any (b : Nat) (vs : Value) (a : Option Addr) (cap : Nat) (ve : Value) (m : Md) (tx : Int) (w : World) {lo hi : Nat} (hbox : MBox w b vs m.c m.n (.slice a m.x.length cap) ve) (h : MAt lo hi w vs (.slice a m.x.length cap) ve m) :
    Calls Tryz.prog 91 #[.pointer (some ⟨b, 0, none⟩), .int .i64 tx] w fun e w' => UAns m tx a e ∧ Below w.heap.size w w' := by
  obtain ⟨q0, q1, q2, q3, q4⟩ := id hbox
  go_enter Tryz.func91, Tryz.ntmps91
  by_cases ho : mgrOk m
  · go_wp2_with (go_at_call 69; refine (implMgrOk_any _ _ _ m _ h).mono ?_; rintro e w1 ⟨⟨q, rfl, hq⟩, hb1⟩; obtain rfl := hq.2 ho; clear hq; obtain ⟨r0, r1, r2, r3, r4⟩ := hbox.stays hb1)
    obtain ⟨a', cap', e', hm, hc⟩ := h.x.stays hb1
    injection e' with e1 e2 e3
    subst e1 e3
    unfold maxLen at hm
    clear e2 q0 q1 q2 q3 q4
    go_loop [6, 19] (fun y i => ∃ k : Nat, k ≤ m.x.length ∧ i = .int .i64 k ∧ ∀ j, j < k → (tAt m.x j).i ≠ tx) (fun _ i => m.x.length - (intOf i).toNat)
    case atStart => exact ⟨0, Nat.zero_le _, rfl, fun j hj => absurd hj (Nat.not_lt_zero _)⟩
    case round =>
      obtain ⟨k, hk, rfl, hs⟩ := hrel
      by_cases hlt : k < m.x.length
      · obtain ⟨bt, off, rfl, _, _, hcc⟩ := hc (by omega)
        have c0 := (hcc k hlt).1
        clear hcc hc
        by_cases he : (tAt m.x k).i = tx
        · have he' : ((tAt m.x k).i == tx) = true := by simp [he]
          have HE : Hid ((tAt m.x k).i = tx) := he
          clear he
          go_wp2
          go_ret2
          exact ⟨.inl ⟨ho, k, bt, off, ⟨hlt, HE.out, hs⟩, rfl, rfl⟩, hb1⟩
        · have he' : ((tAt m.x k).i == tx) = false := by rw [beq_eq_false_iff_ne]; exact he
          have hn := upto_succ hs he
          clear he hs
          go_wp2
          go_round
          case rel => exact ⟨k + 1, by omega, by go_num, hn⟩
          case measure => simp [intOf]; omega
      · clear hc
        go_wp2
        go_ret2
        exact ⟨.inr ⟨.inr fun i hi => hs i (by omega), rfl⟩, hb1⟩
  · go_wp2_with (go_at_call 69; refine (implMgrOk_any _ _ _ m _ h).mono ?_; rintro e w1 ⟨⟨q, rfl, hq⟩, hb1⟩; obtain rfl := says_false hq ho; clear hq)
    go_ret2
    exact ⟨.inr ⟨.inl ho, rfl⟩, hb1⟩

end Go.Proofs.YtmecbppblbmchaaGreatDoor

/- A state behind a pointer loses a transaction; a row of transactions in which those behind one move up. -/
namespace Go.Proofs.YtmecbppblbmchaaGreatDoor
open Go.ChangeShapes Go.WideShapes Go.ChangeAt Go.RowKit Go.Sort
set_option linter.unusedVariables false
set_option maxRecDepth 100000

/-- The places without place i. -/
def skipI (i j : Nat) : Nat := if j < i then j else j + 1
theorem tAt_erase (l : List Td) (i j : Nat) : tAt (l.eraseIdx i) j = tAt l (skipI i j) := by
  simp only [tAt, List.getD_eq_getElem?_getD, List.getElem?_eraseIdx, skipI]
  split <;> rfl
theorem len_erase (l : List Td) {i : Nat} (hi : i < l.length) : (l.eraseIdx i).length = l.length - 1 := by rw [List.length_eraseIdx, if_pos hi]
theorem skip_lt {n i j : Nat} (hi : i < n) (hj : j < n - 1) : skipI i j < n := by unfold skipI; split <;> omega
theorem skip_inj {i j k : Nat} (h : skipI i j = skipI i k) : j = k := by unfold skipI at h; split at h <;> split at h <;> omega

section
variable {base B s0 s1 : Nat} {w : World} {vs vt ve : Value} {m : Md} {wv : Nat → Value}
/-- Other transactions, each of them one that was there. -/
theorem PtrM.setTx (h : PtrM base w B s0 s1 vs vt ve m wv) {w1 w5 : World} (hb : Below w.heap.size w w1) (hg : w1.grownBy w5 vt.ownBlock) {l : List Td} {f : Nat → Nat} {gg cap : Nat}
    (hf : ∀ j, j < l.length → f j < m.x.length ∧ tAt l j = tAt m.x (f j)) (hfi : ∀ i j, i < l.length → j < l.length → f i = f j → i = j)
    (hown : w5.ownsRow base 97 3 (.slice (some ⟨gg, 0, none⟩) l.length cap) l.length (txc l (fun j => wv (f j)))) (hat : vt.ownBlock = some gg ∨ w.heap.size ≤ gg) :
    PtrM base (w5.setCell ⟨B, 3, none⟩ (.slice (some ⟨gg, 0, none⟩) l.length cap)) B s0 s1 vs (.slice (some ⟨gg, 0, none⟩) l.length cap) ve { m with x := l } (fun j => wv (f j)) ∧ Below base w (w5.setCell ⟨B, 3, none⟩ (.slice (some ⟨gg, 0, none⟩) l.length cap)) := by
  have hz1 := hb.size
  have hz5 := hg.size
  have hBl := h.box.lt
  have hk5 : ∀ g, g < w.heap.size → vt.ownBlock ≠ some g → w5.heap[g]? = w.heap[g]? := fun g h1 h2 => (hg.block g (by omega) (fun e => h2 e.symm)).trans (hb.block g h1)
  have hk : ∀ g, g < w.heap.size → vt.ownBlock ≠ some g → g ≠ B → (w5.setCell ⟨B, 3, none⟩ (.slice (some ⟨gg, 0, none⟩) l.length cap)).heap[g]? = w.heap[g]? := fun g h1 h2 h3 => (Below.heap_setCell _ _ _ _ h3).trans (hk5 g h1 h2)
  have hggB : gg ≠ B := fun e => by
    rcases hat with h1 | h1
    · exact h.apart 0 (by omega) (e ▸ h1)
    · omega
  have hgg : vt.ownBlock ≠ some B := h.apart 0 (by omega)
  refine ⟨⟨⟨h.own.s.keep fun k h1 h2 h3 => hk k h3 (fun e => by have := h.own.far 0 (by omega) k e; omega) (by have := h.far; omega), ⟨h.own.sb.1, h.own.sb.2.1, by rw [size_setCell]; have := h.own.sb; omega⟩, ?_, fun j hj => ?_, owns_keepM h.own.h fun g hg' hl => hk g hl (fun e => h.own.apart 1 0 (by omega) (by omega) (by omega) g hg' e) (fun e => h.apart 1 (by omega) (e ▸ hg')), ?_, ?_⟩, ?_, h.base, h.far, ?_⟩, ?_⟩
  · exact owns_keepM hown fun g hg' hl => Below.heap_setCell _ _ _ _ (fun e => hggB ((show g = gg by simpa [Value.ownBlock] using hg'.symm).symm.trans e))
  · obtain ⟨h1, h2⟩ := hf j hj
    show World.ownsRow _ base 111 3 (wv (f j)) (tAt l j).w.length (flat (tAt l j).w)
    rw [h2]
    exact owns_keepM (h.own.xw (f j) h1) fun g hg' hl => hk g hl (fun e' => h.own.apart (f j + 2) 0 (by omega) (by omega) (by omega) g hg' e') (fun e' => h.apart (f j + 2) (by omega) (e' ▸ hg'))
  · intro a ha g hg'
    match a, ha with
    | 0, _ =>
      have e : g = gg := by simpa [mv, Value.ownBlock] using hg'.symm
      rcases hat with h1 | h1
      · exact h.own.far 0 (by omega) g (e ▸ h1)
      · have := h.own.sb; exact .inr (by omega)
    | 1, _ => exact h.own.far 1 (by omega) g hg'
    | j + 2, hj =>
      obtain ⟨h1, _⟩ := hf j (by have : j + 2 < l.length + 2 := hj; omega)
      exact h.own.far (f j + 2) (by omega) g hg'
  · intro a b ha hb' hab g h1 h2
    have ha' : a < l.length + 2 := ha
    have hb'' : b < l.length + 2 := hb'
    have key : ∀ c, c < l.length + 2 → c ≠ 0 → (mv (.slice (some ⟨gg, 0, none⟩) l.length cap) ve (fun j => wv (f j)) c).ownBlock = some g → vt.ownBlock ≠ some g ∧ g < w.heap.size := fun c hc h0 e => by
      match c, hc, h0 with
      | 1, _, _ => exact ⟨fun e' => h.own.apart 1 0 (by omega) (by omega) (by omega) g e e', (h.own.lt 1 (by omega) g e).2⟩
      | j + 2, hj, _ =>
        obtain ⟨h1, _⟩ := hf j (by omega)
        exact ⟨fun e' => h.own.apart (f j + 2) 0 (by omega) (by omega) (by omega) g e e', (h.own.lt (f j + 2) (by omega) g e).2⟩
    have zero : ∀ c, c = 0 → (mv (.slice (some ⟨gg, 0, none⟩) l.length cap) ve (fun j => wv (f j)) c).ownBlock = some g → g = gg := fun c hc e => by
      subst hc
      simpa [mv, Value.ownBlock] using e.symm
    have no : ∀ c d, c < l.length + 2 → d = 0 → c ≠ 0 → (mv (.slice (some ⟨gg, 0, none⟩) l.length cap) ve (fun j => wv (f j)) c).ownBlock = some g → (mv (.slice (some ⟨gg, 0, none⟩) l.length cap) ve (fun j => wv (f j)) d).ownBlock = some g → False := fun c d hc hd h0 e e' => by
      have k1 := key c hc h0 e
      have k2 := zero d hd e'
      subst k2
      rcases hat with h1 | h1
      · exact k1.1 h1
      · omega
    by_cases a0 : a = 0
    · exact no b a hb'' a0 (by omega) h2 h1
    · by_cases b0 : b = 0
      · exact no a b ha' b0 a0 h1 h2
      · match a, b, a0, b0 with
        | 1, 1, _, _ => exact hab rfl
        | 1, j + 2, _, _ =>
          obtain ⟨q1, _⟩ := hf j (by omega)
          exact h.own.apart 1 (f j + 2) (by omega) (by omega) (by omega) g h1 h2
        | j + 2, 1, _, _ =>
          obtain ⟨q1, _⟩ := hf j (by omega)
          exact h.own.apart (f j + 2) 1 (by omega) (by omega) (by omega) g h1 h2
        | i + 2, j + 2, _, _ =>
          obtain ⟨q1, _⟩ := hf i (by omega)
          obtain ⟨q2, _⟩ := hf j (by omega)
          exact h.own.apart (f i + 2) (f j + 2) (by omega) (by omega) (fun e => hab (by rw [hfi i j (by omega) (by omega) (by omega)])) g h1 h2
  · have hb5 := (h.box.of_block (hk5 B hBl hgg)).set 3 (.slice (some ⟨gg, 0, none⟩) l.length cap)
    refine hb5.congr fun j hj => ?_
    match j, hj with
    | 0, _ => rfl
    | 1, _ => rfl
    | 2, _ => rfl
    | 3, _ => rfl
    | 4, _ => rfl
  · intro a ha e
    match a, ha, e with
    | 0, _, e => exact hggB (by simpa [mv, Value.ownBlock] using e)
    | 1, _, e => exact h.apart 1 (by omega) e
    | j + 2, hj, e =>
      obtain ⟨q1, _⟩ := hf j (by have : j + 2 < l.length + 2 := hj; omega)
      exact h.apart (f j + 2) (by omega) e
  · have b1 : Below base w w1 := hb.mono (by have := h.base; omega)
    have b5 : Below base w1 w5 := ⟨hg.os, hg.tape, hg.output, hg.size, fun k hk' => hg.block k (by have := h.base; omega) (fun e => by have := (owns_ltM h.own.x e.symm).1; omega)⟩
    exact (b1.trans b5).setCell (p := ⟨B, 3, none⟩) h.base _
end

theorem below_alX (w : World) (o : Obj) : Below w.heap.size w (w.alloc o) := (Below.refl _ _).alloc (Nat.le_refl _) _
theorem ext3X {n : Nat} (l l' : List Value) (h1 : l.length = n * 3) (h2 : l'.length = n * 3) (hh : ∀ i, i < n → l[i * 3]? = l'[i * 3]? ∧ l[i * 3 + 1]? = l'[i * 3 + 1]? ∧ l[i * 3 + 2]? = l'[i * 3 + 2]?) : l = l' := by
  apply List.ext_getElem?
  intro j
  by_cases hj : j < n * 3
  · obtain ⟨x, y, z⟩ := hh (j / 3) (by omega)
    have : j % 3 = 0 ∨ j % 3 = 1 ∨ j % 3 = 2 := by omega
    rcases this with e | e | e
    · rw [show j = j / 3 * 3 by omega]; exact x
    · rw [show j = j / 3 * 3 + 1 by omega]; exact y
    · rw [show j = j / 3 * 3 + 2 by omega]; exact z
  · rw [List.getElem?_eq_none (by omega), List.getElem?_eq_none (by omega)]
/-- Three cells of a row of threes are put. -/
theorem tri_set3 (n : Nat) (f g h : Nat → Value) (k : Nat) (hk : k < n) (a b c : Value) :
    (((tri n f g h).set (k * 3) a).set (k * 3 + 1) b).set (k * 3 + 2) c = tri n (fun j => if j = k then a else f j) (fun j => if j = k then b else g j) (fun j => if j = k then c else h j) := by
  refine ext3X (n := n) _ _ (by simp [tri_length]) (by simp [tri_length]) fun i hi => ?_
  obtain ⟨x, y, z⟩ := tri_get f g h n i hi
  obtain ⟨x', y', z'⟩ := tri_get (fun j => if j = k then a else f j) (fun j => if j = k then b else g j) (fun j => if j = k then c else h j) n i hi
  rw [x', y', z']
  have hl := tri_length n f g h
  by_cases e : i = k
  · subst e
    simp only [List.getElem?_set, List.length_set, hl]
    refine ⟨?_, ?_, ?_⟩ <;> simp <;> omega
  · simp only [List.getElem?_set, List.length_set, hl, if_neg e]
    refine ⟨?_, ?_, ?_⟩
    · rw [if_neg (by omega), if_neg (by omega), if_neg (by omega)]; exact x
    · rw [if_neg (by omega), if_neg (by omega), if_neg (by omega)]; exact y
    · rw [if_neg (by omega), if_neg (by omega), if_neg (by omega)]; exact z
/-- A slice from place k on, and what it holds. -/
theorem cut_from {e : TypeId} {size : Nat} {w : World} {base g c n : Nat} {xs : List Value} (h : w.ownsRow base e size (.slice (some ⟨g, 0, none⟩) n c) n xs) {k : Nat} (hk : k ≤ n) :
    SrcAt w (if c = k then some ⟨g, 0, none⟩ else some ⟨g, k * size, none⟩) (n - k) (xs.drop (k * size)) := by
  by_cases e : k = n
  · subst e
    exact .inl ⟨by omega, by rw [List.drop_eq_nil_iff, h.1]; exact Nat.le_refl _⟩
  · have hc : n ≤ c := by
      rcases h.2 with ⟨e1, _⟩ | ⟨g', cap, cur, e1, _, _, hnc, _⟩
      · cases e1
      · injection e1 with _ _ e3; omega
    rw [if_neg (by omega)]
    refine .inr ⟨_, rfl, fun j u hu => ?_⟩
    rw [List.getElem?_drop] at hu
    obtain ⟨g', e1, _, hcell, _⟩ := owns_cell h hu
    cases e1
    rw [add_at]
    exact hcell
/-- A slice from place k on, where that is not its end. -/
theorem cut_last {P : Program} {T e : TypeId} {size : Nat} (ht : P.underlying T = some (.slice (P.elem T))) (hs : ∀ x, (sizeOf (P.elem T)).run P x = .ok size x) {w : World} {base g c n : Nat} {xs : List Value} (h : w.ownsRow base e size (.slice (some ⟨g, 0, none⟩) n c) n xs) {k : Nat} (hk : n = k + 1) :
    ∀ x, (Instr.slice T (.slice (some ⟨g, 0, none⟩) n c) (some (.int .i64 (k : Int))) none none).run P x = .ok (.slice (some ⟨g, k * size, none⟩) 1 (c - k)) x := fun x => by
  have hc : n ≤ c := by
    rcases h.2 with ⟨e1, _⟩ | ⟨g', cap, cur, e1, _, _, hnc, _⟩
    · cases e1
    · injection e1 with _ _ e3; omega
  rw [run_slice_l x T _ _ _ ht .i64 _ (by omega) (by omega), hs]
  simp only [Result.andThen, sliced, Int.toNat_natCast, Option.map_some, add_at, Nat.zero_add]
  rw [if_neg (by omega), show n - k = 1 by omega]
/-- A slice up to place k, and what it holds. -/
theorem cut_to {P : Program} {T e : TypeId} {size : Nat} (ht : P.underlying T = some (.slice (P.elem T))) (hs : ∀ x, (sizeOf (P.elem T)).run P x = .ok size x) {w : World} {base g c n : Nat} {xs : List Value} (h : w.ownsRow base e size (.slice (some ⟨g, 0, none⟩) n c) n xs) {k : Nat} (hk : k ≤ n) :
    (∀ x, (Instr.slice T (.slice (some ⟨g, 0, none⟩) n c) none (some (.int .i64 (k : Int))) none).run P x = .ok (.slice (some ⟨g, 0, none⟩) k c) x) ∧ SrcAt w (some ⟨g, 0, none⟩) k (xs.take (k * size)) := by
  have hc : n ≤ c := by
    rcases h.2 with ⟨e1, _⟩ | ⟨g', cap, cur, e1, _, _, hnc, _⟩
    · cases e1
    · injection e1 with _ _ e3; omega
  refine ⟨fun x => ?_, ?_⟩
  · rw [run_slice_h x T _ _ _ ht .i64 _ (by omega) (by omega), hs]
    simp only [Result.andThen, sliced, Int.toNat_natCast, Option.map_some, add_at, Nat.zero_mul, Nat.add_zero, ite_self, Nat.sub_zero]
  · refine .inr ⟨_, rfl, fun j u hu => ?_⟩
    have hu' : xs[j]? = some u := by
      rw [List.getElem?_take] at hu
      split at hu
      · exact hu
      · cases hu
    obtain ⟨g', e1, _, hcell, _⟩ := owns_cell h hu'
    cases e1
    rw [add_at, Nat.zero_add]
    exact hcell
end Go.Proofs.YtmecbppblbmchaaGreatDoor
