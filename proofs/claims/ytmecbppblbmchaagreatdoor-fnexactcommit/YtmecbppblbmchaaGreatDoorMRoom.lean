import Derived.Test.YtmecbppblbmchaaGreatDoorMOk3
import Derived.Test.YtmecbppblbmchaaGreatDoorM5
import Derived.Test.YtmecbppblbmchaaGreatDoorRegLast
/- Which transaction is meant: spec.l2tx and impl.underWay. -/
namespace Go.Proofs.YtmecbppblbmchaaGreatDoor
open Go.ChangeShapes Go.WideShapes Go.ChangeAt Go.RowKit Go.Sort
set_option linter.unusedVariables false
set_option maxRecDepth 100000
attribute [local go_sem ↓] Go.wp_at_zero Go.wp_at_succ

/-- The i-th transaction is the first one of that number. -/
def IsTx (m : Md) (tx : Int) (i : Nat) : Prop := i < m.x.length ∧ (tAt m.x i).i = tx ∧ ∀ j, j < i → (tAt m.x j).i ≠ tx
def NoTx (m : Md) (tx : Int) : Prop := ∀ i, i < m.x.length → (tAt m.x i).i ≠ tx
theorem IsTx.one {m : Md} {tx : Int} {i j : Nat} (hi : IsTx m tx i) (hj : IsTx m tx j) : i = j := by
  rcases Nat.lt_trichotomy i j with h | h | h
  · exact absurd hi.2.1 (hj.2.2 i h)
  · exact h
  · exact absurd hj.2.1 (hi.2.2 j h)
theorem tx_either (m : Md) (tx : Int) : NoTx m tx ∨ ∃ i, IsTx m tx i := by
  have key : ∀ n, n ≤ m.x.length → (∀ j, j < n → (tAt m.x j).i ≠ tx) ∨ ∃ i, IsTx m tx i := fun n => by
    induction n with
    | zero => exact fun _ => .inl fun j hj => absurd hj (Nat.not_lt_zero _)
    | succ n ih =>
      intro hn
      rcases ih (by omega) with h | h
      · by_cases e : (tAt m.x n).i = tx
        · exact .inr ⟨n, by omega, e, h⟩
        · refine .inl fun j hj => ?_
          by_cases e' : j = n
          · exact e' ▸ e
          · exact h j (by omega)
      · exact .inr h
  exact key _ (Nat.le_refl _)

theorem l2tx_any (b : Nat) (vs vt ve : Value) (m : Md) (tx : Int) (w : World) {lo hi : Nat} (hbox : MBox w b vs m.c m.n vt ve) (h : TxsAt lo hi w vt m.x) :
    Calls Tryz.prog 45 #[.pointer (some ⟨b, 0, none⟩), .int .i64 tx] w fun e w' => (∃ x, e = .returned (.int .i64 x) ∧ ((x = -1 ∧ NoTx m tx) ∨ ∃ i : Nat, x = i ∧ IsTx m tx i)) ∧ w' = w := by
  obtain ⟨a, cap, rfl, hm, hc⟩ := h
  unfold maxLen at hm
  obtain ⟨q0, q1, q2, q3, q4⟩ := hbox
  go_enter Tryz.func45, Tryz.ntmps45
  go_wp2
  go_loop [5] (fun i => ∃ k : Nat, k ≤ m.x.length ∧ i = .int .i64 k ∧ ∀ j, j < k → (tAt m.x j).i ≠ tx) (fun i => m.x.length - (intOf i).toNat)
  case atStart => exact ⟨0, Nat.zero_le _, rfl, fun j hj => absurd hj (Nat.not_lt_zero _)⟩
  case round =>
    obtain ⟨k, hk, rfl, hs⟩ := hrel
    by_cases hlt : k < m.x.length
    · obtain ⟨bt, off, rfl, _, _, hcc⟩ := hc (by omega)
      have c0 := (hcc k hlt).1
      clear hcc hc
      by_cases he : (tAt m.x k).i = tx
      · have he' : ((tAt m.x k).i == tx) = true := by simp [he]
        have HE : Hid ((tAt m.x k).i = tx) := he
        clear he
        go_wp2
        go_ret
        exact ⟨⟨_, rfl, .inr ⟨k, rfl, hlt, HE.out, hs⟩⟩, rfl⟩
      · have he' : ((tAt m.x k).i == tx) = false := by rw [beq_eq_false_iff_ne]; exact he
        have hn := upto_succ hs he
        clear he hs
        go_wp2
        go_round
        case rel => exact ⟨k + 1, by omega, by go_num, hn⟩
        case measure => simp [intOf]; omega
    · clear hc
      go_wp2
      go_ret
      exact ⟨⟨_, rfl, .inl ⟨rfl, fun i hi => hs i (by omega)⟩⟩, rfl⟩

/-- What underWay answers. -/
def UAns (m : Md) (tx : Int) (a : Option Addr) (e : Ending) : Prop :=
  (mgrOk m ∧ ∃ i bt off, IsTx m tx i ∧ a = some ⟨bt, off, none⟩ ∧ e = .returned (.tuple #[.pointer (some ⟨bt, off + i * 3, none⟩), .nilIface])) ∨
  ((¬ mgrOk m ∨ NoTx m tx) ∧ e = .returned (.tuple #[.pointer none, .iface 113 (.agg #[.int .i64 1])]))

set_option maxHeartbeats 1000000 in
theorem underWay_any (b : Nat) (vs : Value) (a : Option Addr) (cap : Nat) (ve : Value) (m : Md) (tx : Int) (w : World) {lo hi : Nat} (hbox : MBox w b vs m.c m.n (.slice a m.x.length cap) ve) (h : MAt lo hi w vs (.slice a m.x.length cap) ve m) :
    Calls Tryz.prog 91 #[.pointer (some ⟨b, 0, none⟩), .int .i64 tx] w fun e w' => UAns m tx a e ∧ Below w.heap.size w w' := by
  obtain ⟨q0, q1, q2, q3, q4⟩ := id hbox
  go_enter Tryz.func91, Tryz.ntmps91
  by_cases ho : mgrOk m
  · go_wp2_with (go_at_call 69; refine (implMgrOk_any _ _ _ m _ h).mono ?_; rintro e w1 ⟨⟨q, rfl, hq⟩, hb1⟩; obtain rfl := hq.2 ho; clear hq; obtain ⟨r0, r1, r2, r3, r4⟩ := hbox.stays hb1)
    obtain ⟨a', cap', e', hm, hc⟩ := h.x.stays hb1
    injection e' with e1 e2 e3
    subst e1 e3
    unfold maxLen at hm
    clear e2 q0 q1 q2 q3 q4
    go_loop [6, 19] (fun y i => ∃ k : Nat, k ≤ m.x.length ∧ i = .int .i64 k ∧ ∀ j, j < k → (tAt m.x j).i ≠ tx) (fun _ i => m.x.length - (intOf i).toNat)
    case atStart => exact ⟨0, Nat.zero_le _, rfl, fun j hj => absurd hj (Nat.not_lt_zero _)⟩
    case round =>
      obtain ⟨k, hk, rfl, hs⟩ := hrel
      by_cases hlt : k < m.x.length
      · obtain ⟨bt, off, rfl, _, _, hcc⟩ := hc (by omega)
        have c0 := (hcc k hlt).1
        clear hcc hc
        by_cases he : (tAt m.x k).i = tx
        · have he' : ((tAt m.x k).i == tx) = true := by simp [he]
          have HE : Hid ((tAt m.x k).i = tx) := he
          clear he
          go_wp2
          go_ret2
          exact ⟨.inl ⟨ho, k, bt, off, ⟨hlt, HE.out, hs⟩, rfl, rfl⟩, hb1⟩
        · have he' : ((tAt m.x k).i == tx) = false := by rw [beq_eq_false_iff_ne]; exact he
          have hn := upto_succ hs he
          clear he hs
          go_wp2
          go_round
          case rel => exact ⟨k + 1, by omega, by go_num, hn⟩
          case measure => simp [intOf]; omega
      · clear hc
        go_wp2
        go_ret2
        exact ⟨.inr ⟨.inr fun i hi => hs i (by omega), rfl⟩, hb1⟩
  · go_wp2_with (go_at_call 69; refine (implMgrOk_any _ _ _ m _ h).mono ?_; rintro e w1 ⟨⟨q, rfl, hq⟩, hb1⟩; obtain rfl := says_false hq ho; clear hq)
    go_ret2
    exact ⟨.inr ⟨.inl ho, rfl⟩, hb1⟩

end Go.Proofs.YtmecbppblbmchaaGreatDoor

/- A state behind a pointer loses a transaction; a row of transactions in which those behind one move up. -/
namespace Go.Proofs.YtmecbppblbmchaaGreatDoor
open Go.ChangeShapes Go.WideShapes Go.ChangeAt Go.RowKit Go.Sort
set_option linter.unusedVariables false
set_option maxRecDepth 100000

/-- The places without place i. -/
def skipI (i j : Nat) : Nat := if j < i then j else j + 1
theorem tAt_erase (l : List Td) (i j : Nat) : tAt (l.eraseIdx i) j = tAt l (skipI i j) := by
  simp only [tAt, List.getD_eq_getElem?_getD, List.getElem?_eraseIdx, skipI]
  split <;> rfl
theorem len_erase (l : List Td) {i : Nat} (hi : i < l.length) : (l.eraseIdx i).length = l.length - 1 := by rw [List.length_eraseIdx, if_pos hi]
theorem skip_lt {n i j : Nat} (hi : i < n) (hj : j < n - 1) : skipI i j < n := by unfold skipI; split <;> omega
theorem skip_inj {i j k : Nat} (h : skipI i j = skipI i k) : j = k := by unfold skipI at h; split at h <;> split at h <;> omega

section
variable {base B s0 s1 : Nat} {w : World} {vs vt ve : Value} {m : Md} {wv : Nat → Value}
/-- Other transactions, each of them one that was there. -/
theorem PtrM.setTx (h : PtrM base w B s0 s1 vs vt ve m wv) {w1 w5 : World} (hb : Below w.heap.size w w1) (hg : w1.grownBy w5 vt.ownBlock) {l : List Td} {f : Nat → Nat} {gg cap : Nat}
    (hf : ∀ j, j < l.length → f j < m.x.length ∧ tAt l j = tAt m.x (f j)) (hfi : ∀ i j, i < l.length → j < l.length → f i = f j → i = j)
    (hown : w5.ownsRow base 97 3 (.slice (some ⟨gg, 0, none⟩) l.length cap) l.length (txc l (fun j => wv (f j)))) (hat : vt.ownBlock = some gg ∨ w.heap.size ≤ gg) :
    PtrM base (w5.setCell ⟨B, 3, none⟩ (.slice (some ⟨gg, 0, none⟩) l.length cap)) B s0 s1 vs (.slice (some ⟨gg, 0, none⟩) l.length cap) ve { m with x := l } (fun j => wv (f j)) ∧ Below base w (w5.setCell ⟨B, 3, none⟩ (.slice (some ⟨gg, 0, none⟩) l.length cap)) := by
  have hz1 := hb.size
  have hz5 := hg.size
  have hBl := h.box.lt
  have hk5 : ∀ g, g < w.heap.size → vt.ownBlock ≠ some g → w5.heap[g]? = w.heap[g]? := fun g h1 h2 => (hg.block g (by omega) (fun e => h2 e.symm)).trans (hb.block g h1)
  have hk : ∀ g, g < w.heap.size → vt.ownBlock ≠ some g → g ≠ B → (w5.setCell ⟨B, 3, none⟩ (.slice (some ⟨gg, 0, none⟩) l.length cap)).heap[g]? = w.heap[g]? := fun g h1 h2 h3 => (Below.heap_setCell _ _ _ _ h3).trans (hk5 g h1 h2)
  have hggB : gg ≠ B := fun e => by
    rcases hat with h1 | h1
    · exact h.apart 0 (by omega) (e ▸ h1)
    · omega
  have hgg : vt.ownBlock ≠ some B := h.apart 0 (by omega)
  refine ⟨⟨⟨h.own.s.keep fun k h1 h2 h3 => hk k h3 (fun e => by have := h.own.far 0 (by omega) k e; omega) (by have := h.far; omega), ⟨h.own.sb.1, h.own.sb.2.1, by rw [size_setCell]; have := h.own.sb; omega⟩, ?_, fun j hj => ?_, owns_keepM h.own.h fun g hg' hl => hk g hl (fun e => h.own.apart 1 0 (by omega) (by omega) (by omega) g hg' e) (fun e => h.apart 1 (by omega) (e ▸ hg')), ?_, ?_⟩, ?_, h.base, h.far, ?_⟩, ?_⟩
  · exact owns_keepM hown fun g hg' hl => Below.heap_setCell _ _ _ _ (fun e => hggB ((show g = gg by simpa [Value.ownBlock] using hg'.symm).symm.trans e))
  · obtain ⟨h1, h2⟩ := hf j hj
    show World.ownsRow _ base 111 3 (wv (f j)) (tAt l j).w.length (flat (tAt l j).w)
    rw [h2]
    exact owns_keepM (h.own.xw (f j) h1) fun g hg' hl => hk g hl (fun e' => h.own.apart (f j + 2) 0 (by omega) (by omega) (by omega) g hg' e') (fun e' => h.apart (f j + 2) (by omega) (e' ▸ hg'))
  · intro a ha g hg'
    match a, ha with
    | 0, _ =>
      have e : g = gg := by simpa [mv, Value.ownBlock] using hg'.symm
      rcases hat with h1 | h1
      · exact h.own.far 0 (by omega) g (e ▸ h1)
      · have := h.own.sb; exact .inr (by omega)
    | 1, _ => exact h.own.far 1 (by omega) g hg'
    | j + 2, hj =>
      obtain ⟨h1, _⟩ := hf j (by have : j + 2 < l.length + 2 := hj; omega)
      exact h.own.far (f j + 2) (by omega) g hg'
  · intro a b ha hb' hab g h1 h2
    have ha' : a < l.length + 2 := ha
    have hb'' : b < l.length + 2 := hb'
    have key : ∀ c, c < l.length + 2 → c ≠ 0 → (mv (.slice (some ⟨gg, 0, none⟩) l.length cap) ve (fun j => wv (f j)) c).ownBlock = some g → vt.ownBlock ≠ some g ∧ g < w.heap.size := fun c hc h0 e => by
      match c, hc, h0 with
      | 1, _, _ => exact ⟨fun e' => h.own.apart 1 0 (by omega) (by omega) (by omega) g e e', (h.own.lt 1 (by omega) g e).2⟩
      | j + 2, hj, _ =>
        obtain ⟨h1, _⟩ := hf j (by omega)
        exact ⟨fun e' => h.own.apart (f j + 2) 0 (by omega) (by omega) (by omega) g e e', (h.own.lt (f j + 2) (by omega) g e).2⟩
    have zero : ∀ c, c = 0 → (mv (.slice (some ⟨gg, 0, none⟩) l.length cap) ve (fun j => wv (f j)) c).ownBlock = some g → g = gg := fun c hc e => by
      subst hc
      simpa [mv, Value.ownBlock] using e.symm
    have no : ∀ c d, c < l.length + 2 → d = 0 → c ≠ 0 → (mv (.slice (some ⟨gg, 0, none⟩) l.length cap) ve (fun j => wv (f j)) c).ownBlock = some g → (mv (.slice (some ⟨gg, 0, none⟩) l.length cap) ve (fun j => wv (f j)) d).ownBlock = some g → False := fun c d hc hd h0 e e' => by
      have k1 := key c hc h0 e
      have k2 := zero d hd e'
      subst k2
      rcases hat with h1 | h1
      · exact k1.1 h1
      · omega
    by_cases a0 : a = 0
    · exact no b a hb'' a0 (by omega) h2 h1
    · by_cases b0 : b = 0
      · exact no a b ha' b0 a0 h1 h2
      · match a, b, a0, b0 with
        | 1, 1, _, _ => exact hab rfl
        | 1, j + 2, _, _ =>
          obtain ⟨q1, _⟩ := hf j (by omega)
          exact h.own.apart 1 (f j + 2) (by omega) (by omega) (by omega) g h1 h2
        | j + 2, 1, _, _ =>
          obtain ⟨q1, _⟩ := hf j (by omega)
          exact h.own.apart (f j + 2) 1 (by omega) (by omega) (by omega) g h1 h2
        | i + 2, j + 2, _, _ =>
          obtain ⟨q1, _⟩ := hf i (by omega)
          obtain ⟨q2, _⟩ := hf j (by omega)
          exact h.own.apart (f i + 2) (f j + 2) (by omega) (by omega) (fun e => hab (by rw [hfi i j (by omega) (by omega) (by omega)])) g h1 h2
  · have hb5 := (h.box.of_block (hk5 B hBl hgg)).set 3 (.slice (some ⟨gg, 0, none⟩) l.length cap)
    refine hb5.congr fun j hj => ?_
    match j, hj with
    | 0, _ => rfl
    | 1, _ => rfl
    | 2, _ => rfl
    | 3, _ => rfl
    | 4, _ => rfl
  · intro a ha e
    match a, ha, e with
    | 0, _, e => exact hggB (by simpa [mv, Value.ownBlock] using e)
    | 1, _, e => exact h.apart 1 (by omega) e
    | j + 2, hj, e =>
      obtain ⟨q1, _⟩ := hf j (by have : j + 2 < l.length + 2 := hj; omega)
      exact h.apart (f j + 2) (by omega) e
  · have b1 : Below base w w1 := hb.mono (by have := h.base; omega)
    have b5 : Below base w1 w5 := ⟨hg.os, hg.tape, hg.output, hg.size, fun k hk' => hg.block k (by have := h.base; omega) (fun e => by have := (owns_ltM h.own.x e.symm).1; omega)⟩
    exact (b1.trans b5).setCell (p := ⟨B, 3, none⟩) h.base _
end

theorem below_alX (w : World) (o : Obj) : Below w.heap.size w (w.alloc o) := (Below.refl _ _).alloc (Nat.le_refl _) _
theorem ext3X {n : Nat} (l l' : List Value) (h1 : l.length = n * 3) (h2 : l'.length = n * 3) (hh : ∀ i, i < n → l[i * 3]? = l'[i * 3]? ∧ l[i * 3 + 1]? = l'[i * 3 + 1]? ∧ l[i * 3 + 2]? = l'[i * 3 + 2]?) : l = l' := by
  apply List.ext_getElem?
  intro j
  by_cases hj : j < n * 3
  · obtain ⟨x, y, z⟩ := hh (j / 3) (by omega)
    have : j % 3 = 0 ∨ j % 3 = 1 ∨ j % 3 = 2 := by omega
    rcases this with e | e | e
    · rw [show j = j / 3 * 3 by omega]; exact x
    · rw [show j = j / 3 * 3 + 1 by omega]; exact y
    · rw [show j = j / 3 * 3 + 2 by omega]; exact z
  · rw [List.getElem?_eq_none (by omega), List.getElem?_eq_none (by omega)]
/-- Three cells of a row of threes are put. -/
theorem tri_set3 (n : Nat) (f g h : Nat → Value) (k : Nat) (hk : k < n) (a b c : Value) :
    (((tri n f g h).set (k * 3) a).set (k * 3 + 1) b).set (k * 3 + 2) c = tri n (fun j => if j = k then a else f j) (fun j => if j = k then b else g j) (fun j => if j = k then c else h j) := by
  refine ext3X (n := n) _ _ (by simp [tri_length]) (by simp [tri_length]) fun i hi => ?_
  obtain ⟨x, y, z⟩ := tri_get f g h n i hi
  obtain ⟨x', y', z'⟩ := tri_get (fun j => if j = k then a else f j) (fun j => if j = k then b else g j) (fun j => if j = k then c else h j) n i hi
  rw [x', y', z']
  have hl := tri_length n f g h
  by_cases e : i = k
  · subst e
    simp only [List.getElem?_set, List.length_set, hl]
    refine ⟨?_, ?_, ?_⟩ <;> simp <;> omega
  · simp only [List.getElem?_set, List.length_set, hl, if_neg e]
    refine ⟨?_, ?_, ?_⟩
    · rw [if_neg (by omega), if_neg (by omega), if_neg (by omega)]; exact x
    · rw [if_neg (by omega), if_neg (by omega), if_neg (by omega)]; exact y
    · rw [if_neg (by omega), if_neg (by omega), if_neg (by omega)]; exact z
/-- A slice from place k on, and what it holds. -/
theorem cut_from {e : TypeId} {size : Nat} {w : World} {base g c n : Nat} {xs : List Value} (h : w.ownsRow base e size (.slice (some ⟨g, 0, none⟩) n c) n xs) {k : Nat} (hk : k ≤ n) :
    SrcAt w (if c = k then some ⟨g, 0, none⟩ else some ⟨g, k * size, none⟩) (n - k) (xs.drop (k * size)) := by
  by_cases e : k = n
  · subst e
    exact .inl ⟨by omega, by rw [List.drop_eq_nil_iff, h.1]; exact Nat.le_refl _⟩
  · have hc : n ≤ c := by
      rcases h.2 with ⟨e1, _⟩ | ⟨g', cap, cur, e1, _, _, hnc, _⟩
      · cases e1
      · injection e1 with _ _ e3; omega
    rw [if_neg (by omega)]
    refine .inr ⟨_, rfl, fun j u hu => ?_⟩
    rw [List.getElem?_drop] at hu
    obtain ⟨g', e1, _, hcell, _⟩ := owns_cell h hu
    cases e1
    rw [add_at]
    exact hcell
/-- A slice from place k on, where that is not its end. -/
theorem cut_last {P : Program} {T e : TypeId} {size : Nat} (ht : P.underlying T = some (.slice (P.elem T))) (hs : ∀ x, (sizeOf (P.elem T)).run P x = .ok size x) {w : World} {base g c n : Nat} {xs : List Value} (h : w.ownsRow base e size (.slice (some ⟨g, 0, none⟩) n c) n xs) {k : Nat} (hk : n = k + 1) :
    ∀ x, (Instr.slice T (.slice (some ⟨g, 0, none⟩) n c) (some (.int .i64 (k : Int))) none none).run P x = .ok (.slice (some ⟨g, k * size, none⟩) 1 (c - k)) x := fun x => by
  have hc : n ≤ c := by
    rcases h.2 with ⟨e1, _⟩ | ⟨g', cap, cur, e1, _, _, hnc, _⟩
    · cases e1
    · injection e1 with _ _ e3; omega
  rw [run_slice_l x T _ _ _ ht .i64 _ (by omega) (by omega), hs]
  simp only [Result.andThen, sliced, Int.toNat_natCast, Option.map_some, add_at, Nat.zero_add]
  rw [if_neg (by omega), show n - k = 1 by omega]
/-- A slice up to place k, and what it holds. -/
theorem cut_to {P : Program} {T e : TypeId} {size : Nat} (ht : P.underlying T = some (.slice (P.elem T))) (hs : ∀ x, (sizeOf (P.elem T)).run P x = .ok size x) {w : World} {base g c n : Nat} {xs : List Value} (h : w.ownsRow base e size (.slice (some ⟨g, 0, none⟩) n c) n xs) {k : Nat} (hk : k ≤ n) :
    (∀ x, (Instr.slice T (.slice (some ⟨g, 0, none⟩) n c) none (some (.int .i64 (k : Int))) none).run P x = .ok (.slice (some ⟨g, 0, none⟩) k c) x) ∧ SrcAt w (some ⟨g, 0, none⟩) k (xs.take (k * size)) := by
  have hc : n ≤ c := by
    rcases h.2 with ⟨e1, _⟩ | ⟨g', cap, cur, e1, _, _, hnc, _⟩
    · cases e1
    · injection e1 with _ _ e3; omega
  refine ⟨fun x => ?_, ?_⟩
  · rw [run_slice_h x T _ _ _ ht .i64 _ (by omega) (by omega), hs]
    simp only [Result.andThen, sliced, Int.toNat_natCast, Option.map_some, add_at, Nat.zero_mul, Nat.add_zero, ite_self, Nat.sub_zero]
  · refine .inr ⟨_, rfl, fun j u hu => ?_⟩
    have hu' : xs[j]? = some u := by
      rw [List.getElem?_take] at hu
      split at hu
      · exact hu
      · cases hu
    obtain ⟨g', e1, _, hcell, _⟩ := owns_cell h hu'
    cases e1
    rw [add_at, Nat.zero_add]
    exact hcell
end Go.Proofs.YtmecbppblbmchaaGreatDoor

/- The program's dropTx: slices.DeleteFunc over a row of transactions that the call owns. -/
namespace Go.Proofs.YtmecbppblbmchaaGreatDoor
open Go.ChangeShapes Go.WideShapes Go.ChangeAt Go.RowKit Go.Sort
set_option linter.unusedVariables false
set_option maxRecDepth 100000
attribute [local go_sem ↓] Go.wp_at_zero Go.wp_at_succ

/-- Is it the transaction of that number? -/
theorem isDrop_any (Bt : Nat) (tx i s : Int) (ua : Option Addr) (un uc : Nat) (w : World) (hb : w.cell? ⟨Bt, 0, none⟩ = some (.int .i64 tx)) :
    Calls Tryz.prog 132 #[.agg #[.int .i64 i, .int .i64 s, .slice ua un uc], .pointer (some ⟨Bt, 0, none⟩)] w fun e w' => e = .returned (.bool (i == tx)) ∧ Below w.heap.size w w' := by
  have hl := cell_lt hb
  have bA := below_alX w (Obj.cells #[.int .i64 i, .int .i64 s, .slice ua un uc] 97)
  have hb' := cell_stays bA hb
  obtain ⟨A, hA⟩ : ∃ A, (i == tx) = A := ⟨_, rfl⟩
  rw [hA]
  go_enter Tryz.func132, Tryz.ntmps132
  go_wp2
  go_ret
  exact ⟨by first | rfl | rw [hA], bA⟩

/-- Where the transaction of that number stands. -/
theorem idxDrop_any (Bt : Nat) (m : Md) (tx : Int) (i : Nat) (wv : Nat → Value) (hws : ∀ j, j < m.x.length → ∃ a n c, wv j = .slice a n c) (base g cap : Nat) (w : World) (hb : w.cell? ⟨Bt, 0, none⟩ = some (.int .i64 tx)) (hi : IsTx m tx i) (hn : m.x.length ≤ 1048580)
    (h : w.ownsRow base 97 3 (.slice (some ⟨g, 0, none⟩) m.x.length cap) m.x.length (txc m.x wv)) :
    Calls Tryz.prog 148 #[.slice (some ⟨g, 0, none⟩) m.x.length cap, .func (.func 132) #[] #[.pointer (some ⟨Bt, 0, none⟩)]] w fun e w' => e = .returned (.int .i64 (i : Int)) ∧ Below w.heap.size w w' := by
  obtain ⟨hil, hie, hib⟩ := hi
  change Hid _ at hib
  change Hid _ at hie
  go_enter Tryz.func148, Tryz.ntmps148
  go_wp2
  go_loopw [8] (fun i' wr => ∃ k : Nat, k ≤ i ∧ i' = .int .i64 k ∧ Below w.heap.size w wr) (fun i' _ => m.x.length - (intOf i').toNat)
  case atStart => exact ⟨0, Nat.zero_le _, rfl, Below.refl _ _⟩
  case round =>
    rename World => wo
    obtain ⟨k, hk, rfl, hbw⟩ := hrel
    have hkl : k < m.x.length := by omega
    obtain ⟨f0, f1, f2⟩ := txc_get m.x wv hkl
    obtain ⟨g0, e0, _, c0, _⟩ := owns_cell h f0
    obtain ⟨g1, e1, _, c1, _⟩ := owns_cell h f1
    obtain ⟨g2, e2, _, c2, _⟩ := owns_cell h f2
    cases e0; cases e1; cases e2
    replace c0 := cell_stays hbw c0
    replace c1 := cell_stays hbw c1
    replace c2 := cell_stays hbw c2
    have i0 : (0 : Int) ≤ (k : Int) := by omega
    have i1 : (k : Int) < (m.x.length : Int) := by omega
    obtain ⟨ua, un, uc, hu⟩ := hws k hkl
    rw [hu] at c2
    have hC := isDrop_any Bt tx (tAt m.x k).i (tAt m.x k).s ua un uc wo (cell_stays hbw hb)
    by_cases e : k = i
    · subst e
      rw [show ((tAt m.x k).i == tx) = true by simpa using hie.out] at hC
      clear f0 f1 f2
      go_wp2_with fail
      refine hC.mono ?_
      rintro e w1 ⟨rfl, hb1⟩
      go_wp2
      go_ret
      exact ⟨rfl, hbw.trans (hb1.mono hbw.size)⟩
    · rw [show ((tAt m.x k).i == tx) = false by rw [beq_eq_false_iff_ne]; exact hib.out k (by omega)] at hC
      clear f0 f1 f2
      go_wp2_with fail
      refine hC.mono ?_
      rintro e w1 ⟨rfl, hb1⟩
      go_wp2
      go_roundw
      case rel => exact ⟨k + 1, by omega, by go_num, hbw.trans (hb1.mono hbw.size)⟩
      case measure => simp [intOf]; omega

/-- The place that is read at place q, when those behind place i up to j have moved up. -/
def mvI (i j q : Nat) : Nat := if q < i then q else if q + 1 < j then q + 1 else q
theorem mvI_start (i q : Nat) : mvI i (i + 1) q = q := by unfold mvI; split; rfl; split <;> omega
theorem mvI_step {i j : Nat} (hij : i < j) (q : Nat) : mvI i (j + 1) q = if q = j - 1 then j else mvI i j q := by
  unfold mvI
  by_cases e : q = j - 1
  · subst e; rw [if_neg (by omega), if_pos (by omega), if_pos rfl]; omega
  · rw [if_neg e]; split; rfl; split <;> split <;> omega
theorem mvI_end {i n : Nat} (hi : i < n) {q : Nat} (hq : q < n - 1) : mvI i n q = skipI i q := by
  unfold mvI skipI; split; rfl; rw [if_pos (by omega)]
theorem mvI_lt {i j n q : Nat} (hj : j ≤ n) (hq : q < n) : mvI i j q < n := by unfold mvI; split; omega; split <;> omega
/-- The row, when those behind place i up to j have moved up. -/
def mvRow (m : Md) (wv : Nat → Value) (i j : Nat) : List Value := tri m.x.length (fun q => .int .i64 (tAt m.x (mvI i j q)).i) (fun q => .int .i64 (tAt m.x (mvI i j q)).s) (fun q => wv (mvI i j q))
theorem mvRow_start (m : Md) (wv : Nat → Value) (i : Nat) : mvRow m wv i (i + 1) = txc m.x wv := by simp only [mvRow, txc, mvI_start]
theorem mvRow_step (m : Md) (wv : Nat → Value) {i j : Nat} (hij : i < j) (hj : j < m.x.length) :
    ((((mvRow m wv i j).set ((j - 1) * 3) (.int .i64 (tAt m.x j).i)).set ((j - 1) * 3 + 1) (.int .i64 (tAt m.x j).s)).set ((j - 1) * 3 + 2) (wv j)) = mvRow m wv i (j + 1) := by
  rw [mvRow, tri_set3 _ _ _ _ _ (by omega), mvRow]
  congr 1 <;> funext q <;> rw [mvI_step hij] <;> split <;> simp_all
theorem mvRow_next (m : Md) (wv : Nat → Value) {i k : Nat} (hik : i ≤ k) (hk : k + 1 < m.x.length) :
    ((((mvRow m wv i (k + 1)).set (k * 3) (.int .i64 (tAt m.x (k + 1)).i)).set (k * 3 + 1) (.int .i64 (tAt m.x (k + 1)).s)).set (k * 3 + 2) (wv (k + 1))) = mvRow m wv i (k + 1 + 1) := by
  have := mvRow_step m wv (i := i) (j := k + 1) (by omega) hk
  simpa using this
theorem tri_take (f g h : Nat → Value) {n k : Nat} (hk : k ≤ n) : (tri n f g h).take (k * 3) = tri k f g h := by
  apply List.ext_getElem?
  intro j
  by_cases hj : j < k * 3
  · rw [List.getElem?_take, if_pos hj]
    obtain ⟨x, y, z⟩ := tri_get f g h n (j / 3) (by omega)
    obtain ⟨x', y', z'⟩ := tri_get f g h k (j / 3) (by omega)
    have : j % 3 = 0 ∨ j % 3 = 1 ∨ j % 3 = 2 := by omega
    rcases this with e | e | e
    · rw [show j = j / 3 * 3 by omega, x, x']
    · rw [show j = j / 3 * 3 + 1 by omega, y, y']
    · rw [show j = j / 3 * 3 + 2 by omega, z, z']
  · rw [List.getElem?_take, if_neg hj, List.getElem?_eq_none (by rw [tri_length]; omega)]
theorem mvRow_end (m : Md) (wv : Nat → Value) {i : Nat} (hi : i < m.x.length) : (mvRow m wv i m.x.length).take ((m.x.length - 1) * 3) = txc (m.x.eraseIdx i) (fun j => wv (skipI i j)) := by
  rw [mvRow, tri_take _ _ _ (by omega), txc, len_erase _ hi]
  simp only [tri]
  rw [List.flatMap_def, List.flatMap_def]
  congr 1
  apply List.map_congr_left
  intro q hq
  rw [mvI_end hi (List.mem_range.1 hq), tAt_erase]
theorem owns_take {w : World} {base : Nat} {e : TypeId} {size : Nat} {a : Option Addr} {c n k : Nat} {xs : List Value} (h : w.ownsRow base e size (.slice a n c) n xs) (ha : a ≠ none) (hk : k ≤ n) : w.ownsRow base e size (.slice a k c) k (xs.take (k * size)) := by
  have hks := Nat.mul_le_mul_right size hk
  refine ⟨by rw [List.length_take, h.1]; omega, ?_⟩
  rcases h.2 with ⟨e1, _⟩ | ⟨g, cap, cur, e1, hg, hh, hnc, hcm, hsz, hx⟩
  · injection e1 with e1; exact absurd e1 ha
  · injection e1 with e2 e3 e4
    subst e2 e4
    exact .inr ⟨g, c, cur, rfl, hg, hh, by omega, hcm, hsz, by rw [← hx, List.take_take]; congr 1; omega⟩
/-- 'clear' of a slice of one element of whatever cells. -/
theorem run_clear_one {P : Program} (w : World) (t e ty : TypeId) (z : Value) (zs : List Value) (ht : P.underlying t = some (.slice e)) (hv : ∀ w, (zeroValue e).run P w = .ok z w) (hz : (Builtin.zeroCells z.cells 1).toList = zs) (h1 : ∀ v ∈ zs, v.oneCell' = true) (b o c : Nat)
    (hc : ∀ j, j < zs.length → (w.cell? ⟨b, o + j, none⟩).isSome = true) (hf : ∀ j, j < zs.length → w.frozen? ⟨b, o + j, none⟩ = false) :
    (Builtin.clear_ #[t] ty #[.slice (some ⟨b, o, none⟩) 1 c]).run P w = .ok (.tuple #[]) (w.setCells b o zs) := by
  have hst := run_storeCells_cells (P := P) b o zs 0 w (by simpa using hc) (by simpa using hf) h1
  simp only [Nat.add_zero] at hst
  simp [Builtin.clear_, run_underlying ht, hv, hz, hst]
/-- The last element of a row is put anew: the others stay. -/
theorem owns_set3 {w : World} {base g c n k : Nat} {e : TypeId} {xs : List Value} (h : w.ownsRow base e 3 (.slice (some ⟨g, 0, none⟩) n c) n xs) (hn : n = k + 1) (a b d : Value) : (w.setCells g (k * 3) [a, b, d]).ownsRow base e 3 (.slice (some ⟨g, 0, none⟩) k c) k (xs.take (k * 3)) := by
  have h3 := owns_take (k := k) (owns_set (owns_set (owns_set h (k * 3) a (by omega)) (k * 3 + 1) b (by omega)) (k * 3 + 2) d (by omega)) (by simp) (by omega)
  have e1 : ∀ (l : List Value) (i : Nat) (u : Value), k * 3 ≤ i → (l.set i u).take (k * 3) = l.take (k * 3) := fun l i u hi => by rw [List.take_set_of_le hi]
  rw [e1 _ _ _ (by omega), e1 _ _ _ (by omega), e1 _ _ _ (by omega)] at h3
  exact h3

set_option maxHeartbeats 4000000 in
theorem delTx_any (Bt : Nat) (m : Md) (tx : Int) (i : Nat) (wv : Nat → Value) (hws : ∀ j, j < m.x.length → ∃ a n c, wv j = .slice a n c) (base g cap : Nat) (w : World) (hb : w.cell? ⟨Bt, 0, none⟩ = some (.int .i64 tx)) (hi : IsTx m tx i) (hu : ∀ j, i < j → j < m.x.length → (tAt m.x j).i ≠ tx) (hn : m.x.length ≤ 1048580) (hne : Bt ≠ g)
    (h : w.ownsRow base 97 3 (.slice (some ⟨g, 0, none⟩) m.x.length cap) m.x.length (txc m.x wv)) :
    Calls Tryz.prog 131 #[.slice (some ⟨g, 0, none⟩) m.x.length cap, .func (.func 132) #[] #[.pointer (some ⟨Bt, 0, none⟩)]] w fun e w' => e = .returned (.slice (some ⟨g, 0, none⟩) (m.x.eraseIdx i).length cap) ∧
      w'.ownsRow base 97 3 (.slice (some ⟨g, 0, none⟩) (m.x.eraseIdx i).length cap) (m.x.eraseIdx i).length (txc (m.x.eraseIdx i) (fun j => wv (skipI i j))) ∧ w.grownBy w' (some g) := by
  have hil := hi.1
  have HU : Hid (∀ j, i < j → j < m.x.length → (tAt m.x j).i ≠ tx) := hu
  have hIdx := idxDrop_any Bt m tx i wv hws base g cap w hb hi hn h
  have i9 : ((i : Int) == -1) = false := by rw [beq_eq_false_iff_ne]; omega
  clear hu hi
  go_enter Tryz.func131, Tryz.ntmps131
  go_wp2_with fail
  refine hIdx.mono ?_
  rintro e w1 ⟨rfl, hb1⟩
  have h1 := owns_keepM h fun k hk hl => hb1.block k hl
  have g1 : w.grownBy w1 (some g) := ⟨hb1.os, hb1.tape, hb1.output, hb1.size, fun k hk _ => hb1.block k hk⟩
  go_wp2
  go_loopw [5, 6] (fun a b wr => ∃ k j : Nat, i ≤ k ∧ k + 1 ≤ j ∧ j ≤ k + 1 ∧ j ≤ m.x.length ∧ a = .int .i64 (k : Int) ∧ b = .int .i64 (j : Int) ∧ wr.ownsRow base 97 3 (.slice (some ⟨g, 0, none⟩) m.x.length cap) m.x.length (mvRow m wv i j) ∧ w.grownBy wr (some g)) (fun _ b _ => m.x.length - (intOf b).toNat)
  case atStart => exact ⟨i, i + 1, Nat.le_refl _, Nat.le_refl _, Nat.le_refl _, by omega, rfl, by push_cast; rfl, by rw [mvRow_start]; exact h1, g1⟩
  case round =>
    rename World => wo
    obtain ⟨k, j, hik, hkj, hjk, hjn, rfl, rfl, hO, hG⟩ := hrel
    have hbo : wo.cell? ⟨Bt, 0, none⟩ = some (.int .i64 tx) := hG.cell hb (by simpa using hne)
    clear h1 hb1 g1 hIdx hb h
    by_cases hlt : j < m.x.length
    · obtain ⟨f0, f1, f2⟩ := tri_get (fun q => .int .i64 (tAt m.x (mvI i j q)).i) (fun q => .int .i64 (tAt m.x (mvI i j q)).s) (fun q => wv (mvI i j q)) m.x.length j hlt
      rw [show mvI i j j = j by unfold mvI; rw [if_neg (by omega), if_neg (by omega)]] at f0 f1 f2
      obtain ⟨_, e0, hgb, c0, _⟩ := owns_cell hO f0
      obtain ⟨_, e1, _, c1, _⟩ := owns_cell hO f1
      obtain ⟨_, e2, _, c2, _⟩ := owns_cell hO f2
      cases e0; cases e1; cases e2
      have i0 : (0 : Int) ≤ (j : Int) := by omega
      have i1 : (j : Int) < (m.x.length : Int) := by omega
      have k0 : (0 : Int) ≤ (k : Int) := by omega
      have k1 : (k : Int) < (m.x.length : Int) := by omega
      obtain ⟨ua, un, uc, hu⟩ := hws j hlt
      rw [hu] at c2
      have bA := below_alX wo (Obj.cells #[.int .i64 (tAt m.x j).i, .int .i64 (tAt m.x j).s, .slice ua un uc] 97)
      have hgl := (owns_ltM hO rfl).2
      have hC := isDrop_any Bt tx (tAt m.x j).i (tAt m.x j).s ua un uc _ (cell_stays bA hbo)
      rw [show ((tAt m.x j).i == tx) = false by rw [beq_eq_false_iff_ne]; exact HU.out j (by omega) hlt] at hC
      have HN : Hid (∀ W : World, W.ownsRow base 97 3 (.slice (some ⟨g, 0, none⟩) m.x.length cap) m.x.length (((((mvRow m wv i j).set (k * 3) (.int .i64 (tAt m.x j).i)).set (k * 3 + 1) (.int .i64 (tAt m.x j).s)).set (k * 3 + 2) (.slice ua un uc))) → W.ownsRow base 97 3 (.slice (some ⟨g, 0, none⟩) m.x.length cap) m.x.length (mvRow m wv i (j + 1))) := fun W hW => by
        have := mvRow_step m wv (i := i) (j := j) (by omega) hlt
        rw [show j - 1 = k by omega, hu] at this
        rw [← this]
        exact hW
      generalize hti : (tAt m.x j).i = ti at *
      generalize hts : (tAt m.x j).s = ts at *
      clear f0 f1 f2 hbo hu hti hts
      go_wp2_with fail
      refine hC.mono ?_
      rintro e w2 ⟨rfl, hb2⟩
      have b2 := bA.trans (hb2.mono bA.size)
      have hO2 := owns_keepM hO fun q hq hl => b2.block q hl
      obtain ⟨p0, p1, p2⟩ := tri_get (fun q => .int .i64 (tAt m.x (mvI i j q)).i) (fun q => .int .i64 (tAt m.x (mvI i j q)).s) (fun q => wv (mvI i j q)) m.x.length k (by omega)
      obtain ⟨_, e0, _, d0, q0⟩ := owns_cell hO2 p0
      obtain ⟨_, e1, _, d1, q1⟩ := owns_cell hO2 p1
      obtain ⟨_, e2, _, d2, q2⟩ := owns_cell hO2 p2
      cases e0; cases e1; cases e2
      have hV := Deep.blk_alloc_new wo (Obj.cells #[.int .i64 ti, .int .i64 ts, .slice ua un uc] 97)
      rw [← hb2.block _ (by simp)] at hV
      have v0 : w2.cell? ⟨wo.heap.size, 0, none⟩ = some (.int .i64 ti) := by simp [World.cell?, hV]
      have v1 : w2.cell? ⟨wo.heap.size, 1, none⟩ = some (.int .i64 ts) := by simp [World.cell?, hV]
      have v2 : w2.cell? ⟨wo.heap.size, 2, none⟩ = some (.slice ua un uc) := by simp [World.cell?, hV]
      clear p0 p1 p2 c0 c1 c2 hV
      go_wp2
      go_roundw
      case rel =>
        refine ⟨k + 1, j + 1, by omega, by omega, by omega, by omega, by go_num, by go_num, HN.out _ ?_, ?_⟩
        · exact owns_set (owns_set (owns_set hO2 (k * 3) _ (by omega)) (k * 3 + 1) _ (by omega)) (k * 3 + 2) _ (by omega)
        · refine ⟨b2.os.trans hG.os, b2.tape.trans hG.tape, b2.output.trans hG.output, ?_, fun q hq hqg => ?_⟩
          · simp only [size_setCell]; have := hG.size; have := b2.size; omega
          · have hqg' : q ≠ g := fun e => hqg (by rw [e])
            rw [Below.heap_setCell _ _ _ _ (by exact hqg'), Below.heap_setCell _ _ _ _ (by exact hqg'), Below.heap_setCell _ _ _ _ (by exact hqg'), b2.block q (by have := hG.size; omega), hG.block q hq hqg]
      case measure => simp [intOf]; omega
    · have hkn : m.x.length = k + 1 := by omega
      obtain rfl : j = m.x.length := by omega
      have k0 : (0 : Int) ≤ (k : Int) := by omega
      have hgl := (owns_ltM hO rfl).2
      have hck : cap ≠ k := fun e => by
        rcases hO.2 with ⟨e1, _⟩ | ⟨g', cap', cur, e1, _, _, hnc, _⟩
        · cases e1
        · injection e1 with _ _ e3; omega
      have hk1 : m.x.length - k = 1 := by omega
      have k1 : (k : Int) ≤ (m.x.length : Int) := by omega
      have k2 : (k : Int) ≤ (cap : Int) := by
        rcases hO.2 with ⟨e1, _⟩ | ⟨g', cap', cur, e1, _, _, hnc, _⟩
        · cases e1
        · injection e1 with _ _ e3; omega
      have hF := owns_set3 hO hkn (.int .i64 0) (.int .i64 0) (.slice none 0 0)
      have hkl : k = (m.x.eraseIdx i).length := by rw [len_erase _ hil]; omega
      rw [show (mvRow m wv i m.x.length).take (k * 3) = txc (m.x.eraseIdx i) (fun j => wv (skipI i j)) by rw [← mvRow_end m wv hil]; congr 2; omega] at hF
      have hcc : ∀ j, j < 3 → (wo.cell? ⟨g, k * 3 + j, none⟩).isSome = true ∧ wo.frozen? ⟨g, k * 3 + j, none⟩ = false := fun j hj => by
        have hlen : (mvRow m wv i m.x.length).length = m.x.length * 3 := tri_length _ _ _ _
        obtain ⟨u, hu⟩ : ∃ u, (mvRow m wv i m.x.length)[k * 3 + j]? = some u := ⟨_, List.getElem?_eq_getElem (by omega)⟩
        obtain ⟨_, e0, _, c0, q0⟩ := owns_cell hO hu
        cases e0
        exact ⟨by rw [c0]; rfl, q0⟩
      have HK : Hid (k = (m.x.eraseIdx i).length) := hkl
      clear hkn hkl hik hkj hjk hjn
      have hcl := run_clear_one (P := Tryz.prog) wo 33 97 0 (.agg #[.int .i64 0, .int .i64 0, .slice none 0 0]) [.int .i64 0, .int .i64 0, .slice none 0 0] (by kernel_rfl) (fun w => by kernel_rfl) (by kernel_rfl) (by simp [Value.oneCell']) g (k * 3) (cap - k) (fun j hj => (hcc j hj).1) (fun j hj => (hcc j hj).2)
      clear hcc
      go_wp2
      go_ret
      refine ⟨by rw [← HK.out]; rfl, by rw [← HK.out]; exact hF, ?_⟩
      refine ⟨hG.os, hG.tape, hG.output, ?_, fun q hq hqg => ?_⟩
      · simp only [World.setCells, size_setCell]; exact hG.size
      · have hqg' : q ≠ g := fun e => hqg (by rw [e])
        simp only [World.setCells]
        rw [Below.heap_setCell _ _ _ _ (by exact hqg'), Below.heap_setCell _ _ _ _ (by exact hqg'), Below.heap_setCell _ _ _ _ (by exact hqg'), hG.block q hq hqg]
end Go.Proofs.YtmecbppblbmchaaGreatDoor

/- The program's hasRoom. -/
namespace Go.Proofs.YtmecbppblbmchaaGreatDoor
open Go.ChangeShapes Go.WideShapes Go.ChangeAt Go.RowKit Go.Sort
set_option linter.unusedVariables false
set_option maxRecDepth 100000
attribute [local go_sem ↓] Go.wp_at_zero Go.wp_at_succ

def refE (c : Int) : Value := .iface 113 (.agg #[.int .i64 c])
theorem hasRoom_any (a1 a2 a3 : Option Addr) (n1 c1 n2 c2 n3 c3 : Nat) (c n : Int) (w : World) (hn : n3 ≤ 1048580) :
    Calls Tryz.prog 70 #[.agg #[.slice a1 n1 c1, .int .i64 c, .int .i64 n, .slice a2 n2 c2, .slice a3 n3 c3]] w fun e w' => e = .returned (.bool (decide (n3 ≤ 2998))) ∧ Below w.heap.size w w' := by
  by_cases h : n3 ≤ 2998
  · have h' : (n3 : Int) ≤ 2998 := by omega
    go_enter Tryz.func70, Tryz.ntmps70
    go_wp2
    go_ret
    exact ⟨by rw [decide_eq_true h]; rfl, (Below.refl _ _).alloc (Nat.le_refl _) _⟩
  · have h' : ¬ (n3 : Int) ≤ 2998 := by omega
    go_enter Tryz.func70, Tryz.ntmps70
    go_wp2
    go_ret
    exact ⟨by first | rfl | (rw [decide_eq_false h]; rfl), (Below.refl _ _).alloc (Nat.le_refl _) _⟩

end Go.Proofs.YtmecbppblbmchaaGreatDoor
