import Derived.Test.YtmecbppblbmchaaGreatDoorMRoom
import Derived.Test.YtmecbppblbmchaaGreatDoorM3
import Derived.Test.YtmecbppblbmchaaGreatDoorM5
/- The program's dropTx and abort, on a state behind a pointer. -/
namespace Go.Proofs.YtmecbppblbmchaaGreatDoor
open Go.ChangeShapes Go.WideShapes Go.ChangeAt Go.RowKit Go.Sort
set_option linter.unusedVariables false
set_option maxRecDepth 100000
attribute [local go_sem ↓] Go.wp_at_zero Go.wp_at_succ

/-- The numbers behind the one that is meant are others. -/
def OneTx (m : Md) (tx : Int) (i : Nat) : Prop := ∀ j, i < j → j < m.x.length → (tAt m.x j).i ≠ tx

set_option maxHeartbeats 2000000 in
theorem dropTx_any (base B s0 s1 : Nat) (vs vt ve : Value) (m : Md) (wv : Nat → Value) (tx : Int) (i : Nat) (w : World) (h : PtrM base w B s0 s1 vs vt ve m wv) (hn : m.x.length ≤ 1048580) (hi : IsTx m tx i) (hu : OneTx m tx i) :
    Calls Tryz.prog 94 #[.pointer (some ⟨B, 0, none⟩), .int .i64 tx] w fun e w' => e = .returned (.tuple #[]) ∧ Below base w w' ∧ ∃ vt', PtrM base w' B s0 s1 vs vt' ve { m with x := m.x.eraseIdx i } (fun j => wv (skipI i j)) := by
  have hil := hi.1
  have hBl := h.box.lt
  obtain ⟨a2, cap2, hv2⟩ := owns_sliceM h.own.x
  subst hv2
  obtain ⟨g, hg, hgb, _, _⟩ := owns_cell h.own.x (txc_get m.x wv (show 0 < m.x.length by omega)).1
  subst hg
  have hgl : g < w.heap.size := (owns_ltM h.own.x rfl).2
  have bA := below_alX w (Obj.cells #[.int .i64 tx] 3)
  have hA := h.stays bA
  have c0 : (w.alloc (Obj.cells #[.int .i64 tx] 3)).cell? ⟨w.heap.size, 0, none⟩ = some (.int .i64 tx) := by simp [go_sem]
  obtain ⟨c3, f3⟩ := hA.cell (j := 3) (by omega)
  simp only [bxf] at c3
  have hD := delTx_any w.heap.size m tx i wv (fun j hj => by obtain ⟨a, c, e⟩ := owns_sliceM (h.own.xw j hj); exact ⟨a, _, c, e⟩) base g cap2 _ c0 hi hu hn (by omega) hA.own.x
  go_enter Tryz.func94, Tryz.ntmps94
  go_wp2_with fail
  refine hD.mono ?_
  rintro e w2 ⟨rfl, hO, hG⟩
  have hBg : B ≠ g := fun e => h.apart 0 (by omega) (by rw [e]; rfl)
  have hB2 := hA.box.of_block (hG.block B hA.box.lt (by simpa using hBg))
  have f3' := hB2.frozen 3
  have c3' := hB2.cell (show 3 < 5 by omega)
  obtain ⟨P, bP⟩ := h.setTx bA hG (f := skipI i) (fun j hj => ⟨skip_lt hil (by rw [len_erase _ hil] at hj; exact hj), tAt_erase _ _ _⟩) (fun a b _ _ e => skip_inj e) hO (.inl rfl)
  go_wp2
  refine bodyPost_end (v := .tuple #[]) (by simp [results, Tryz.results94, go_sem]) rfl ⟨rfl, bP, _, P⟩

/-- The state when transaction i has given up. -/
def abM (m : Md) (tx : Int) (i : Nat) : Md := { m with h := m.h ++ [⟨5, tx, 0, 0, 0, 0⟩], x := m.x.eraseIdx i }
theorem build_evA (x : Int) (w : World) : (Instr.build 101 #[(0, .int .i64 5), (1, .int .i64 x)]).run Tryz.prog w = .ok (.agg #[.int .i64 5, .int .i64 x, .int .i64 0, .int .i64 0, .int .i64 0, .int .i64 0]) w := by kernel_rfl
theorem txs_one {m : Md} {tx : Int} {i : Nat} (hok : mgrOk m) (hi : IsTx m tx i) : OneTx m tx i := fun j hij hj => by
  have up : ∀ d, i + d + 1 < m.x.length → (tAt m.x i).i < (tAt m.x (i + d + 1)).i := fun d => by
    induction d with
    | zero => exact fun hd => (hok.2.2.2.2.2.2.2 (i + 0 + 1) hd).2.2.1 (by omega)
    | succ d ih =>
      intro hd
      have h1 := ih (by omega)
      have h2 := (hok.2.2.2.2.2.2.2 (i + (d + 1) + 1) hd).2.2.1 (by omega)
      rw [show i + (d + 1) + 1 - 1 = i + d + 1 by omega] at h2
      omega
  have := up (j - i - 1) (by omega)
  rw [show i + (j - i - 1) + 1 = j by omega, hi.2.1] at this
  omega

set_option maxHeartbeats 4000000 in
theorem abort_any (base B s0 s1 : Nat) (vs vt ve : Value) (m : Md) (wv : Nat → Value) (tx : Int) (w : World) (h : PtrM base w B s0 s1 vs vt ve m wv) (hn : SmallM' m) :
    Calls Tryz.prog 54 #[.pointer (some ⟨B, 0, none⟩), .int .i64 tx] w fun e w' => Below base w w' ∧
      ((mgrOk m ∧ m.h.length ≠ 3000 ∧ e = .returned .nilIface ∧ ∃ i vt' ve' wv', IsTx m tx i ∧ PtrM base w' B s0 s1 vs vt' ve' (abM m tx i) wv') ∨
       ((¬ mgrOk m ∨ NoTx m tx) ∧ e = .returned (refE 1)) ∨
       (mgrOk m ∧ (∃ i, IsTx m tx i) ∧ m.h.length = 3000 ∧ e = .returned (refE 2))) := by
  have hM := h.own.mat hn
  obtain ⟨a1, cap1, hv1⟩ : ∃ a cap, vs = .slice a m.s.length cap := by obtain ⟨a, cap, h1, _⟩ := hM.s; exact ⟨a, cap, h1⟩
  obtain ⟨a2, cap2, hv2⟩ : ∃ a cap, vt = .slice a m.x.length cap := by obtain ⟨a, cap, h1, _⟩ := hM.x; exact ⟨a, cap, h1⟩
  obtain ⟨a3, cap3, hv3⟩ : ∃ a cap, ve = .slice a m.h.length cap := by obtain ⟨a, cap, h1, _⟩ := hM.h; exact ⟨a, cap, h1⟩
  subst hv1 hv2 hv3
  have hbase := h.base
  have hBl := h.box.lt
  have hhl := hn.h
  go_enter Tryz.func54, Tryz.ntmps54
  go_wp2_with fail
  refine (underWay_any B _ a2 cap2 _ m tx _ h.mbox hM).mono ?_
  rintro e w1 ⟨hU, hb1⟩
  have b1 : Below base w w1 := hb1.mono (by omega)
  have h1 := h.stays hb1
  rcases hU with ⟨hok, i, bt, off, hi, e1, rfl⟩ | ⟨hno, rfl⟩
  · have hone := txs_one hok hi
    have HO : Hid (mgrOk m) := hok
    have HI : Hid (IsTx m tx i) := hi
    have HU : Hid (OneTx m tx i) := hone
    clear hok hi hone e1
    obtain ⟨x0, x1, x2, x3, x4⟩ := h1.mbox
    clear x0 x1 x2 x3 hM
    by_cases e3 : m.h.length = 3000
    · have HE : Hid (m.h.length = 3000) := e3
      have hd : ((m.h.length : Int) == 3000) = true := by simp; omega
      clear e3
      go_wp2
      go_ret
      exact ⟨b1, .inr (.inr ⟨HO.out, ⟨i, HI.out⟩, HE.out, rfl⟩)⟩
    · have HE : Hid (m.h.length ≠ 3000) := e3
      have hd : ((m.h.length : Int) == 3000) = false := by rw [beq_eq_false_iff_ne]; omega
      clear e3
      obtain ⟨ti, hI, hz0, hz1, hz2⟩ := info_parts infoEv
      have hbt := build_evA tx
      have bA := below_alX w1 (Obj.cells #[.int .i64 5, .int .i64 tx, .int .i64 0, .int .i64 0, .int .i64 0, .int .i64 0] 101)
      have hXA := owns_keepM h1.own.h fun g hg hl => bA.block g hl
      have hnB := h1.apart 1 (by omega)
      have hzW : base ≤ w1.heap.size := by have := h1.box.lt; omega
      go_wp2_with (at_builtin; refine wpList_append_lies _ rfl _ _ 34 rfl base 101 ti _ 6 48 Tryz.underlying34 hI hz0 hz1 hz2 rfl (by omega) (.slice a3 m.h.length cap3) m.h.length (hexa m.h) rfl hXA ⟨w1.heap.size, 0, none⟩ 1 1 [.int .i64 5, .int .i64 tx, .int .i64 0, .int .i64 0, .int .i64 0, .int .i64 0] rfl rfl (World.news_of_block (World.alloc_heap_new w1 _)) (by intro u hu; simp at hu; rcases hu with rfl | rfl | rfl | rfl | rfl | rfl <;> rfl) (by omega) (by unfold maxLen; omega) (by omega) (by simp; omega) (w1.heap.size + 1) (by simp) ?_; intro gg cap5 w5 hown5 hgrow5 hat5 hlt5; have hB5 := h1.box.of_block (show w5.heap[B]? = w1.heap[B]? from (hgrow5.block B (Nat.lt_of_lt_of_le h1.box.lt (by have := bA.size; exact this)) (fun e => hnB e.symm)).trans (bA.block B h1.box.lt)); have q4 := hB5.cell (show 4 < 5 by omega); have qf := hB5.frozen 4)
      obtain ⟨P7, bP7⟩ := h1.pushEv (x := ⟨5, tx, 0, 0, 0, 0⟩) bA hgrow5 hown5 (by rcases hat5 with e | e; exact .inl e; exact .inr (by omega))
      have b7 := b1.trans bP7
      have hz7 := b7.size
      clear q4 qf hB5 hlt5 hat5 hgrow5 hown5 hXA bA hbt hI hz0 hz1 hz2 x4 h1 b1 hb1 hd bP7
      refine (dropTx_any base B s0 s1 _ _ _ _ wv tx i _ P7 hn.x HI.out HU.out).mono ?_
      rintro e w8 ⟨rfl, hb8, vt', P8⟩
      have b8 := b7.trans hb8
      clear P7 hb8
      go_wp2
      go_ret
      exact ⟨b8, .inl ⟨HO.out, HE.out, rfl, i, vt', _, _, HI.out, P8⟩⟩
  · have HN : Hid (¬ mgrOk m ∨ NoTx m tx) := hno
    clear hno
    go_wp2
    go_ret
    exact ⟨b1, .inr (.inl ⟨HN.out, rfl⟩)⟩
end Go.Proofs.YtmecbppblbmchaaGreatDoor

/- A state behind a pointer is turned: one transaction more, with what it has written. -/
namespace Go.Proofs.YtmecbppblbmchaaGreatDoor
open Go.ChangeShapes Go.WideShapes Go.ChangeAt Go.RowKit Go.Sort
set_option linter.unusedVariables false
set_option maxRecDepth 100000

/-- The lists, with u behind the first n. -/
def wsnocU (n : Nat) (wv : Nat → Value) (u : Value) : Nat → Value := fun j => if j < n then wv j else u
theorem txc_snocU (l : List Td) (i s : Int) (r : List Rw) (wv : Nat → Value) (u : Value) : txc (l ++ [⟨i, s, r⟩]) (wsnocU l.length wv u) = txc l wv ++ [.int .i64 i, .int .i64 s, u] := by
  simp only [txc, tri, List.length_append, List.length_cons, List.length_nil, Nat.zero_add, List.range_succ, List.flatMap_append, List.flatMap_cons, List.flatMap_nil, List.append_nil]
  congr 1
  · rw [List.flatMap_def, List.flatMap_def]
    congr 1
    apply List.map_congr_left
    intro a ha
    have ha' : a < l.length := List.mem_range.1 ha
    rw [tAt_snoc_lt l _ ha']
    simp [wsnocU, ha']
  · rw [tAt_snoc_eq]
    simp [wsnocU]

section
variable {base B s0 s1 : Nat} {w : World} {vs vt ve : Value} {m : Md} {wv : Nat → Value}
/-- One transaction more, with what it has written. -/
theorem PtrM.pushTxW (h : PtrM base w B s0 s1 vs vt ve m wv) {w1 w5 : World} (hb : Below w.heap.size w w1) (hg : w1.grownBy w5 vt.ownBlock) {i s : Int} {r : List Rw} {u : Value} {gg cap : Nat}
    (hown : w5.ownsRow base 97 3 (.slice (some ⟨gg, 0, none⟩) (m.x.length + 1) cap) (m.x.length + 1) (txc m.x wv ++ [.int .i64 i, .int .i64 s, u])) (hat : vt.ownBlock = some gg ∨ w1.heap.size ≤ gg) (hu : w1.ownsRow base 111 3 u r.length (flat r)) (hug : ∀ g, u.ownBlock = some g → w.heap.size ≤ g) :
    PtrM base (w5.setCell ⟨B, 3, none⟩ (.slice (some ⟨gg, 0, none⟩) (m.x.length + 1) cap)) B s0 s1 vs (.slice (some ⟨gg, 0, none⟩) (m.x.length + 1) cap) ve { m with x := m.x ++ [⟨i, s, r⟩] } (wsnocU m.x.length wv u) ∧ Below base w (w5.setCell ⟨B, 3, none⟩ (.slice (some ⟨gg, 0, none⟩) (m.x.length + 1) cap)) := by
  have hz1 := hb.size
  have hz5 := hg.size
  have hBl := h.box.lt
  have hk5 : ∀ g, g < w.heap.size → vt.ownBlock ≠ some g → w5.heap[g]? = w.heap[g]? := fun g h1 h2 => (hg.block g (by omega) (fun e => h2 e.symm)).trans (hb.block g h1)
  have hk : ∀ g, g < w.heap.size → vt.ownBlock ≠ some g → g ≠ B → (w5.setCell ⟨B, 3, none⟩ (.slice (some ⟨gg, 0, none⟩) (m.x.length + 1) cap)).heap[g]? = w.heap[g]? := fun g h1 h2 h3 => (Below.heap_setCell _ _ _ _ h3).trans (hk5 g h1 h2)
  have hggB : gg ≠ B := fun e => by
    rcases hat with h1 | h1
    · exact h.apart 0 (by omega) (e ▸ h1)
    · omega
  have hgg : vt.ownBlock ≠ some B := h.apart 0 (by omega)
  have hlen : (m.x ++ [(⟨i, s, r⟩ : Td)]).length = m.x.length + 1 := by simp
  have old : ∀ a, a < m.x.length + 2 → a ≠ 0 → (mv (.slice (some ⟨gg, 0, none⟩) (m.x.length + 1) cap) ve (wsnocU m.x.length wv u) a).ownBlock = (mv vt ve wv a).ownBlock := fun a ha h0 => by
    match a, ha, h0 with
    | 1, _, _ => rfl
    | j + 2, hj, _ => simp only [mv, wsnocU, if_pos (show j < m.x.length by omega)]
  have new : (mv (.slice (some ⟨gg, 0, none⟩) (m.x.length + 1) cap) ve (wsnocU m.x.length wv u) (m.x.length + 2)).ownBlock = u.ownBlock := by simp [mv, wsnocU]
  have hul : ∀ g, u.ownBlock = some g → w.heap.size ≤ g ∧ g < w1.heap.size := fun g hg' => ⟨hug g hg', (owns_ltM hu hg').2⟩
  refine ⟨⟨⟨h.own.s.keep fun k h1 h2 h3 => hk k h3 (fun e => by have := h.own.far 0 (by omega) k e; omega) (by have := h.far; omega), ⟨h.own.sb.1, h.own.sb.2.1, by rw [size_setCell]; have := h.own.sb; omega⟩, ?_, fun j hj => ?_, owns_keepM h.own.h fun g hg' hl => hk g hl (fun e => h.own.apart 1 0 (by omega) (by omega) (by omega) g hg' e) (fun e => h.apart 1 (by omega) (e ▸ hg')), ?_, ?_⟩, ?_, h.base, h.far, ?_⟩, ?_⟩
  · show World.ownsRow _ base 97 3 _ (m.x ++ [(⟨i, s, r⟩ : Td)]).length (txc (m.x ++ [(⟨i, s, r⟩ : Td)]) (wsnocU m.x.length wv u))
    rw [txc_snocU, hlen]
    exact owns_keepM hown fun g hg' hl => Below.heap_setCell _ _ _ _ (fun e => hggB ((show g = gg by simpa [Value.ownBlock] using hg'.symm).symm.trans e))
  · have hj' : j < m.x.length + 1 := by rw [← hlen]; exact hj
    show World.ownsRow _ base 111 3 (wsnocU m.x.length wv u j) (tAt (m.x ++ [(⟨i, s, r⟩ : Td)]) j).w.length (flat (tAt (m.x ++ [(⟨i, s, r⟩ : Td)]) j).w)
    by_cases e : j < m.x.length
    · rw [tAt_snoc_lt _ _ e, wsnocU, if_pos e]
      exact owns_keepM (h.own.xw j e) fun g hg' hl => hk g hl (fun e' => h.own.apart (j + 2) 0 (by omega) (by omega) (by omega) g hg' e') (fun e' => h.apart (j + 2) (by omega) (e' ▸ hg'))
    · obtain rfl : j = m.x.length := by omega
      rw [tAt_snoc_eq, wsnocU, if_neg e]
      exact owns_keepM hu fun g hg' hl => (Below.heap_setCell _ _ _ _ (by show g ≠ B; have := hul g hg'; omega)).trans (hg.block g hl (fun e' => by have := (owns_ltM h.own.x e'.symm).2; have := hul g hg'; omega))
  · intro a ha g hg'
    have ha' : a < m.x.length + 1 + 2 := by rw [← hlen]; exact ha
    by_cases e0 : a = 0
    · subst e0
      have e : g = gg := by simpa [mv, Value.ownBlock] using hg'.symm
      rcases hat with h1 | h1
      · exact h.own.far 0 (by omega) g (e ▸ h1)
      · have := h.own.sb; exact .inr (by omega)
    · by_cases e1 : a = m.x.length + 2
      · subst e1; rw [new] at hg'; have := hul g hg'; have := h.own.sb; exact .inr (by omega)
      · rw [old a (by omega) e0] at hg'
        exact h.own.far a (by omega) g hg'
  · refine apart_upd (N := m.x.length + 2) (S := w.heap.size) (f := fun a => (mv vt ve wv a).ownBlock) h.own.apart (fun a ha g hg' => (h.own.lt a ha g hg').2) (fun a ha g hg' => ?_) (fun a b ha hb' hab g hS h1 h2 => ?_)
    · have ha' : a < m.x.length + 1 + 2 := by rw [← hlen]; exact ha
      by_cases e0 : a = 0
      · subst e0
        have e : g = gg := by simpa [mv, Value.ownBlock] using hg'.symm
        rcases hat with h1 | h1
        · exact .inl ⟨by omega, e ▸ h1⟩
        · exact .inr (by omega)
      · by_cases e1 : a = m.x.length + 2
        · subst e1; rw [new] at hg'; have := hul g hg'; exact .inr (by omega)
        · rw [old a (by omega) e0] at hg'
          exact .inl ⟨by omega, hg'⟩
    · have key : ∀ c, c < (m.x ++ [(⟨i, s, r⟩ : Td)]).length + 2 → (mv (.slice (some ⟨gg, 0, none⟩) (m.x.length + 1) cap) ve (wsnocU m.x.length wv u) c).ownBlock = some g → (c = 0 ∧ g = gg) ∨ (c = m.x.length + 2 ∧ u.ownBlock = some g) := fun c hc e => by
        rw [hlen] at hc
        by_cases e0 : c = 0
        · subst e0
          exact .inl ⟨rfl, by simpa [mv, Value.ownBlock] using e.symm⟩
        · by_cases e1 : c = m.x.length + 2
          · subst e1; rw [new] at e; exact .inr ⟨rfl, e⟩
          · rw [old c (by omega) e0] at e
            have := (h.own.lt c (by omega) g e).2
            omega
      have gne : ∀ g', u.ownBlock = some g' → g' ≠ gg := fun g' hg' e => by
        have h1 := hul g' hg'
        rcases hat with h2 | h2
        · have := (owns_ltM h.own.x h2).2; omega
        · omega
      rcases key a ha h1 with ⟨a1, a2⟩ | ⟨a1, a2⟩ <;> rcases key b hb' h2 with ⟨b1, b2⟩ | ⟨b1, b2⟩
      · exact hab (a1.trans b1.symm)
      · exact gne g b2 a2
      · exact gne g a2 b2
      · exact hab (a1.trans b1.symm)
  · have hb5 := (h.box.of_block (hk5 B hBl hgg)).set 3 (.slice (some ⟨gg, 0, none⟩) (m.x.length + 1) cap)
    refine hb5.congr fun j hj => ?_
    match j, hj with
    | 0, _ => rfl
    | 1, _ => rfl
    | 2, _ => rfl
    | 3, _ => rfl
    | 4, _ => rfl
  · intro a ha e
    have ha' : a < m.x.length + 1 + 2 := by rw [← hlen]; exact ha
    by_cases e0 : a = 0
    · subst e0
      exact hggB (by simpa [mv, Value.ownBlock] using e)
    · by_cases e1 : a = m.x.length + 2
      · subst e1; rw [new] at e; have := hul B e; omega
      · rw [old a (by omega) e0] at e
        exact h.apart a (by omega) e
  · have b1 : Below base w w1 := hb.mono (by have := h.base; omega)
    have b5 : Below base w1 w5 := ⟨hg.os, hg.tape, hg.output, hg.size, fun k hk' => hg.block k (by have := h.base; omega) (fun e => by have := (owns_ltM h.own.x e.symm).1; omega)⟩
    exact (b1.trans b5).setCell (p := ⟨B, 3, none⟩) h.base _
end
end Go.Proofs.YtmecbppblbmchaaGreatDoor
