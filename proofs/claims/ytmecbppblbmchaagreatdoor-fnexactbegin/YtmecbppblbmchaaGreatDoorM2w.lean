import Derived.Test.YtmecbppblbmchaaGreatDoorM2
import Derived.Deep.AppendLies
import Derived.Deep.AppendSrc
/- append of whatever slice, empty or nil or not, onto a slice that the call owns. Three operations of a region that may come up. -/
namespace Go.Proofs.YtmecbppblbmchaaGreatDoor
open Go.ChangeShapes Go.WideShapes Go.ChangeAt Go.RowKit Go.Sort
set_option linter.unusedVariables false
set_option maxRecDepth 100000

/-- The cells of a slice that may be nil. -/
def SrcAt (w : World) (ad : Option Addr) (m : Nat) (news : List Value) : Prop := (m = 0 ∧ news = []) ∨ ∃ a, ad = some a ∧ ∀ j u, news[j]? = some u → w.cell? (a.add j) = some u
theorem SrcAt.stays {w w' : World} {ad : Option Addr} {m : Nat} {news : List Value} (h : SrcAt w ad m news) (hb : Below w.heap.size w w') : SrcAt w' ad m news := by
  rcases h with h | ⟨a, e, h⟩
  · exact .inl h
  · exact .inr ⟨a, e, fun j u hj => cell_stays hb (h j u hj)⟩
theorem CellsAt.src {w : World} {a : Option Addr} {n k : Nat} {cs : List Value} (h : CellsAt w a n cs) (hl : cs.length = n * k) : SrcAt w a n cs := by
  rcases Nat.eq_zero_or_pos n with h0 | h0
  · subst h0
    exact .inl ⟨rfl, List.eq_nil_of_length_eq_zero (by omega)⟩
  · obtain ⟨b, off, rfl, hc⟩ := h h0
    exact .inr ⟨_, rfl, fun j u hj => by rw [add_at]; exact hc j u hj⟩

theorem run_append_src {P : Program} (w : World) (t ty : TypeId) (base : Nat) (e : TypeId) (i : TypeInfo) (z : Value) (size bytes : Nat) (ht : P.underlying t = some (.slice e)) (hi : P.info? e = some i) (hz : i.zero = some z)
    (hsize : i.size = size) (hby : i.bytes = bytes) (hzs : z.cells.size = size) (hsz : 0 < size)
    (g0 n cap : Nat) (xs : List Value) (hown : w.ownsRow base e size (.slice (some ⟨g0, 0, none⟩) n cap) n xs)
    (ad : Option Addr) (m c : Nat) (news : List Value) (hl : news.length = m * size) (hnews : SrcAt w ad m news) (h1 : ∀ u ∈ news, u.oneCell' = true)
    (h63 : n + m ≤ maxLen) (hbytes : (n + m) * bytes ≤ 140737488355328) (hbase : base ≤ w.heap.size) :
    ∃ g cap' w', (Builtin.append_ #[t, t] ty #[.slice (some ⟨g0, 0, none⟩) n cap, .slice ad m c]).run P w = .ok (.slice (some ⟨g, 0, none⟩) (n + m) cap') w' ∧
      w'.ownsRow base e size (.slice (some ⟨g, 0, none⟩) (n + m) cap') (n + m) (xs ++ news) ∧ w.grownBy w' (some g0) ∧ (g = g0 ∨ g = w.heap.size) ∧ g < w'.heap.size := by
  have fin : ∀ v' w', (Builtin.append_ #[t, t] ty #[.slice (some ⟨g0, 0, none⟩) n cap, .slice ad m c]).run P w = .ok v' w' → w'.ownsRow base e size v' (n + m) (xs ++ news) → w.grownBy w' (some g0) → v' ≠ .slice none 0 0 → (v'.ownBlock = some g0 ∨ v'.ownBlock = some w.heap.size) →
      ∃ g cap' w', (Builtin.append_ #[t, t] ty #[.slice (some ⟨g0, 0, none⟩) n cap, .slice ad m c]).run P w = .ok (.slice (some ⟨g, 0, none⟩) (n + m) cap') w' ∧ w'.ownsRow base e size (.slice (some ⟨g, 0, none⟩) (n + m) cap') (n + m) (xs ++ news) ∧ w.grownBy w' (some g0) ∧ (g = g0 ∨ g = w.heap.size) ∧ g < w'.heap.size := fun v' w' hr ho hg hnil hb => by
    rcases ho.2 with ⟨e1, _⟩ | ⟨g, cap', cur, rfl, _, hh, _⟩
    · exact absurd e1 hnil
    · refine ⟨g, cap', w', hr, ho, hg, ?_, (Array.getElem?_eq_some_iff.1 hh).1⟩
      simpa [Value.ownBlock] using hb
  cases ad with
  | some a =>
    have hn' : ∀ j u, news[j]? = some u → w.cell? (a.add j) = some u := by
      rcases hnews with ⟨rfl, rfl⟩ | ⟨a', e', h⟩
      · intro j u hj; simp at hj
      · injection e' with e'; subst e'; exact h
    obtain ⟨v', w', hr, h2, h3, h4, h5⟩ := run_append_own_at (P := P) w base t ty e i z size bytes ht hi hz hsize hby hzs hsz _ n xs hown a m c news hl hn' h1 h63 hbytes hbase
    exact fin v' w' hr h2 h3 (fun e' => by have := (h4.1 e').1; cases this) h5
  | none =>
    obtain ⟨rfl, rfl⟩ : m = 0 ∧ news = [] := by
      rcases hnews with h | ⟨a', e', _⟩
      · exact h
      · cases e'
    have hcap : n ≤ cap := by
      rcases hown.2 with ⟨e1, _⟩ | ⟨g, cap', cur, e1, _, _, h, _⟩
      · cases e1
      · injection e1 with _ _ e3; omega
    have hsrc : Src P i.size t (.slice none 0 c) 0 [] w := Src.ofNil w ht c
    have hr := run_append_room_src (P := P) w t t ty e i ht hi g0 0 n cap (.slice none 0 c) 0 [] hsrc (by omega) (fun j hj => absurd hj (Nat.not_lt_zero _)) (fun j hj => absurd hj (Nat.not_lt_zero _))
    have hw : w.setCells g0 (0 + n * i.size) [] = w := by simp [World.setCells]
    rw [hw] at hr
    exact fin _ w hr (by simpa using hown) ⟨rfl, rfl, rfl, Nat.le_refl _, fun _ _ _ => rfl⟩ (fun e' => by cases e') (.inl rfl)

/-- At the operation. -/
theorem wp_append_src {P : Program} {w : World} {o : Oper} {a : Act} {K : Act → World → Prop} {Q : Exit → Act → World → Prop} (s x : Operand) (t : TypeId)
    (ho : o.op = .call { callee := .builtin .append, args := #[s, x], argTypes := #[t, t] })
    (base : Nat) (e : TypeId) (i : TypeInfo) (z : Value) (size bytes : Nat) (ht : P.underlying t = some (.slice e)) (hi : P.info? e = some i) (hz : i.zero = some z)
    (hsize : i.size = size) (hby : i.bytes = bytes) (hzs : z.cells.size = size) (hsz : 0 < size)
    (g0 n cap : Nat) (xs : List Value) (hs : a.eval s = .slice (some ⟨g0, 0, none⟩) n cap) (hown : w.ownsRow base e size (.slice (some ⟨g0, 0, none⟩) n cap) n xs)
    (ad : Option Addr) (m c : Nat) (news : List Value) (hx : a.eval x = .slice ad m c) (hl : news.length = m * size) (hnews : SrcAt w ad m news) (h1 : ∀ u ∈ news, u.oneCell' = true)
    (h63 : n + m ≤ maxLen) (hbytes : (n + m) * bytes ≤ 140737488355328) (hbase : base ≤ w.heap.size)
    (h : ∀ g cap' w', w'.ownsRow base e size (.slice (some ⟨g, 0, none⟩) (n + m) cap') (n + m) (xs ++ news) → w.grownBy w' (some g0) → (g = g0 ∨ g = w.heap.size) → g < w'.heap.size → K (a.put o.dst (.slice (some ⟨g, 0, none⟩) (n + m) cap')) w') : o.wp P a w K Q := by
  obtain ⟨g, cap', w', hr, h2, h3, h4, h5⟩ := run_append_src (P := P) w t o.type base e i z size bytes ht hi hz hsize hby hzs hsz g0 n cap xs hown ad m c news hl hnews h1 h63 hbytes hbase
  unfold Oper.wp execOp
  simp only [ho, resolve, invoke, builtin, Sem.run_bind, Sem.run_pure, Result.andThen_ok, List.map_toArray, List.map_cons, List.map_nil, hs, hx, hr]
  exact h g cap' w' h2 h3 h4 h5
/-- At the list of a plain region's operations. -/
theorem wpList_append_src {P : Program} {w : World} {ops : Array Oper} {rest : List Oper} {o : Oper} {a : Act} {Q : Exit → Act → World → Prop} (hgd : o.guard = none) (s x : Operand) (t : TypeId)
    (ho : o.op = .call { callee := .builtin .append, args := #[s, x], argTypes := #[t, t] })
    (base : Nat) (e : TypeId) (i : TypeInfo) (z : Value) (size bytes : Nat) (ht : P.underlying t = some (.slice e)) (hi : P.info? e = some i) (hz : i.zero = some z)
    (hsize : i.size = size) (hby : i.bytes = bytes) (hzs : z.cells.size = size) (hsz : 0 < size)
    (g0 n cap : Nat) (xs : List Value) (hs : a.eval s = .slice (some ⟨g0, 0, none⟩) n cap) (hown : w.ownsRow base e size (.slice (some ⟨g0, 0, none⟩) n cap) n xs)
    (ad : Option Addr) (m c : Nat) (news : List Value) (hx : a.eval x = .slice ad m c) (hl : news.length = m * size) (hnews : SrcAt w ad m news) (h1 : ∀ u ∈ news, u.oneCell' = true)
    (h63 : n + m ≤ maxLen) (hbytes : (n + m) * bytes ≤ 140737488355328) (hbase : base ≤ w.heap.size)
    (h : ∀ g cap' w', w'.ownsRow base e size (.slice (some ⟨g, 0, none⟩) (n + m) cap') (n + m) (xs ++ news) → w.grownBy w' (some g0) → (g = g0 ∨ g = w.heap.size) → g < w'.heap.size → wpList P ops Q rest (a.put o.dst (.slice (some ⟨g, 0, none⟩) (n + m) cap')) w') : wpList P ops Q (o :: rest) a w :=
  wpList_plain hgd fun _ hK => wp_append_src s x t ho base e i z size bytes ht hi hz hsize hby hzs hsz g0 n cap xs hs hown ad m c news hx hl hnews h1 h63 hbytes hbase fun g cap' w' h2 h3 h4 h5 => hK _ _ (h g cap' w' h2 h3 h4 h5)
/-- At a step of a region that draws. -/
theorem step_append_src {P : Program} {w : World} {ops : Array Oper} {o : Oper} {a : Act} {K : Act → World → Prop} {Q : Exit → Act → World → Prop} {E : Prop} (hgd : o.guard = none) (s x : Operand) (t : TypeId)
    (ho : o.op = .call { callee := .builtin .append, args := #[s, x], argTypes := #[t, t] })
    (base : Nat) (e : TypeId) (i : TypeInfo) (z : Value) (size bytes : Nat) (ht : P.underlying t = some (.slice e)) (hi : P.info? e = some i) (hz : i.zero = some z)
    (hsize : i.size = size) (hby : i.bytes = bytes) (hzs : z.cells.size = size) (hsz : 0 < size)
    (g0 n cap : Nat) (xs : List Value) (hs : a.eval s = .slice (some ⟨g0, 0, none⟩) n cap) (hown : w.ownsRow base e size (.slice (some ⟨g0, 0, none⟩) n cap) n xs)
    (ad : Option Addr) (m c : Nat) (news : List Value) (hx : a.eval x = .slice ad m c) (hl : news.length = m * size) (hnews : SrcAt w ad m news) (h1 : ∀ u ∈ news, u.oneCell' = true)
    (h63 : n + m ≤ maxLen) (hbytes : (n + m) * bytes ≤ 140737488355328) (hbase : base ≤ w.heap.size)
    (h : ∀ g cap' w', w'.ownsRow base e size (.slice (some ⟨g, 0, none⟩) (n + m) cap') (n + m) (xs ++ news) → w.grownBy w' (some g0) → (g = g0 ∨ g = w.heap.size) → g < w'.heap.size → K (a.put o.dst (.slice (some ⟨g, 0, none⟩) (n + m) cap')) w') :
    if Region.wanted o (yielded ops a.tmps) = true then Oper.wp P o a w K Q else E := by
  have hw : Region.wanted o (yielded ops a.tmps) = true := by simp [Region.wanted, hgd]
  rw [if_pos hw]
  obtain ⟨g, cap', w', hr, h2, h3, h4, h5⟩ := run_append_src (P := P) w t o.type base e i z size bytes ht hi hz hsize hby hzs hsz g0 n cap xs hown ad m c news hl hnews h1 h63 hbytes hbase
  unfold Oper.wp execOp
  simp only [ho, resolve, invoke, builtin, Sem.run_bind, Sem.run_pure, Result.andThen_ok, List.map_toArray, List.map_cons, List.map_nil, hs, hx, hr]
  exact h g cap' w' h2 h3 h4 h5

/-- Three that may come up: either first. -/
theorem step3L {P : Program} {md : Region.Mode} {l : List Oper} {S : World → Prop} {Q : Exit → Act → World → Prop} {i j k : Nat} {o o' o'' : Oper} {fuel : Nat} {listed : Array Bool} {a : Act} {w : World} (hi : l[i]? = some o) (hj : l[j]? = some o') (hk : l[k]? = some o'') (hr : Region.ready md l.toArray listed = [i, j, k])
    (h : ∀ K' : Act → World → Prop, Shut (∀ a w, S w → (S w → wpAnyH P md l.toArray Q S fuel (listed.setIfInBounds i true) a w) → K' a w) → if Region.wanted o (yielded l.toArray a.tmps) = true then Oper.wp P o a w K' Q else K' (a.put o.dst undef) w)
    (h' : ∀ K' : Act → World → Prop, Shut (∀ a w, S w → (S w → wpAnyH P md l.toArray Q S fuel (listed.setIfInBounds j true) a w) → K' a w) → if Region.wanted o' (yielded l.toArray a.tmps) = true then Oper.wp P o' a w K' Q else K' (a.put o'.dst undef) w)
    (h'' : ∀ K' : Act → World → Prop, Shut (∀ a w, S w → (S w → wpAnyH P md l.toArray Q S fuel (listed.setIfInBounds k true) a w) → K' a w) → if Region.wanted o'' (yielded l.toArray a.tmps) = true then Oper.wp P o'' a w K' Q else K' (a.put o''.dst undef) w) :
    wpAnyH P md l.toArray Q S (fuel + 1) listed a w :=
  wpAnyH_ready hr (by simp) (AllReadyH.cons (by simpa using hi) h (AllReadyH.cons (by simpa using hj) h' (AllReadyH.cons (by simpa using hk) h'' AllReadyH.nil)))

end Go.Proofs.YtmecbppblbmchaaGreatDoor

/- A state behind a pointer is turned: one transaction more, with what it has written. -/
namespace Go.Proofs.YtmecbppblbmchaaGreatDoor
open Go.ChangeShapes Go.WideShapes Go.ChangeAt Go.RowKit Go.Sort
set_option linter.unusedVariables false
set_option maxRecDepth 100000

/-- The lists, with u behind the first n. -/
def wsnocU (n : Nat) (wv : Nat → Value) (u : Value) : Nat → Value := fun j => if j < n then wv j else u
theorem txc_snocU (l : List Td) (i s : Int) (r : List Rw) (wv : Nat → Value) (u : Value) : txc (l ++ [⟨i, s, r⟩]) (wsnocU l.length wv u) = txc l wv ++ [.int .i64 i, .int .i64 s, u] := by
  simp only [txc, tri, List.length_append, List.length_cons, List.length_nil, Nat.zero_add, List.range_succ, List.flatMap_append, List.flatMap_cons, List.flatMap_nil, List.append_nil]
  congr 1
  · rw [List.flatMap_def, List.flatMap_def]
    congr 1
    apply List.map_congr_left
    intro a ha
    have ha' : a < l.length := List.mem_range.1 ha
    rw [tAt_snoc_lt l _ ha']
    simp [wsnocU, ha']
  · rw [tAt_snoc_eq]
    simp [wsnocU]

section
variable {base B s0 s1 : Nat} {w : World} {vs vt ve : Value} {m : Md} {wv : Nat → Value}
/-- One transaction more, with what it has written. -/
theorem PtrM.pushTxW (h : PtrM base w B s0 s1 vs vt ve m wv) {w1 w5 : World} (hb : Below w.heap.size w w1) (hg : w1.grownBy w5 vt.ownBlock) {i s : Int} {r : List Rw} {u : Value} {gg cap : Nat}
    (hown : w5.ownsRow base 97 3 (.slice (some ⟨gg, 0, none⟩) (m.x.length + 1) cap) (m.x.length + 1) (txc m.x wv ++ [.int .i64 i, .int .i64 s, u])) (hat : vt.ownBlock = some gg ∨ w1.heap.size ≤ gg) (hu : w1.ownsRow base 111 3 u r.length (flat r)) (hug : ∀ g, u.ownBlock = some g → w.heap.size ≤ g) :
    PtrM base (w5.setCell ⟨B, 3, none⟩ (.slice (some ⟨gg, 0, none⟩) (m.x.length + 1) cap)) B s0 s1 vs (.slice (some ⟨gg, 0, none⟩) (m.x.length + 1) cap) ve { m with x := m.x ++ [⟨i, s, r⟩] } (wsnocU m.x.length wv u) ∧ Below base w (w5.setCell ⟨B, 3, none⟩ (.slice (some ⟨gg, 0, none⟩) (m.x.length + 1) cap)) := by
  have hz1 := hb.size
  have hz5 := hg.size
  have hBl := h.box.lt
  have hk5 : ∀ g, g < w.heap.size → vt.ownBlock ≠ some g → w5.heap[g]? = w.heap[g]? := fun g h1 h2 => (hg.block g (by omega) (fun e => h2 e.symm)).trans (hb.block g h1)
  have hk : ∀ g, g < w.heap.size → vt.ownBlock ≠ some g → g ≠ B → (w5.setCell ⟨B, 3, none⟩ (.slice (some ⟨gg, 0, none⟩) (m.x.length + 1) cap)).heap[g]? = w.heap[g]? := fun g h1 h2 h3 => (Below.heap_setCell _ _ _ _ h3).trans (hk5 g h1 h2)
  have hggB : gg ≠ B := fun e => by
    rcases hat with h1 | h1
    · exact h.apart 0 (by omega) (e ▸ h1)
    · omega
  have hgg : vt.ownBlock ≠ some B := h.apart 0 (by omega)
  have hlen : (m.x ++ [(⟨i, s, r⟩ : Td)]).length = m.x.length + 1 := by simp
  have old : ∀ a, a < m.x.length + 2 → a ≠ 0 → (mv (.slice (some ⟨gg, 0, none⟩) (m.x.length + 1) cap) ve (wsnocU m.x.length wv u) a).ownBlock = (mv vt ve wv a).ownBlock := fun a ha h0 => by
    match a, ha, h0 with
    | 1, _, _ => rfl
    | j + 2, hj, _ => simp only [mv, wsnocU, if_pos (show j < m.x.length by omega)]
  have new : (mv (.slice (some ⟨gg, 0, none⟩) (m.x.length + 1) cap) ve (wsnocU m.x.length wv u) (m.x.length + 2)).ownBlock = u.ownBlock := by simp [mv, wsnocU]
  have hul : ∀ g, u.ownBlock = some g → w.heap.size ≤ g ∧ g < w1.heap.size := fun g hg' => ⟨hug g hg', (owns_ltM hu hg').2⟩
  refine ⟨⟨⟨h.own.s.keep fun k h1 h2 h3 => hk k h3 (fun e => by have := h.own.far 0 (by omega) k e; omega) (by have := h.far; omega), ⟨h.own.sb.1, h.own.sb.2.1, by rw [size_setCell]; have := h.own.sb; omega⟩, ?_, fun j hj => ?_, owns_keepM h.own.h fun g hg' hl => hk g hl (fun e => h.own.apart 1 0 (by omega) (by omega) (by omega) g hg' e) (fun e => h.apart 1 (by omega) (e ▸ hg')), ?_, ?_⟩, ?_, h.base, h.far, ?_⟩, ?_⟩
  · show World.ownsRow _ base 97 3 _ (m.x ++ [(⟨i, s, r⟩ : Td)]).length (txc (m.x ++ [(⟨i, s, r⟩ : Td)]) (wsnocU m.x.length wv u))
    rw [txc_snocU, hlen]
    exact owns_keepM hown fun g hg' hl => Below.heap_setCell _ _ _ _ (fun e => hggB ((show g = gg by simpa [Value.ownBlock] using hg'.symm).symm.trans e))
  · have hj' : j < m.x.length + 1 := by rw [← hlen]; exact hj
    show World.ownsRow _ base 111 3 (wsnocU m.x.length wv u j) (tAt (m.x ++ [(⟨i, s, r⟩ : Td)]) j).w.length (flat (tAt (m.x ++ [(⟨i, s, r⟩ : Td)]) j).w)
    by_cases e : j < m.x.length
    · rw [tAt_snoc_lt _ _ e, wsnocU, if_pos e]
      exact owns_keepM (h.own.xw j e) fun g hg' hl => hk g hl (fun e' => h.own.apart (j + 2) 0 (by omega) (by omega) (by omega) g hg' e') (fun e' => h.apart (j + 2) (by omega) (e' ▸ hg'))
    · obtain rfl : j = m.x.length := by omega
      rw [tAt_snoc_eq, wsnocU, if_neg e]
      exact owns_keepM hu fun g hg' hl => (Below.heap_setCell _ _ _ _ (by show g ≠ B; have := hul g hg'; omega)).trans (hg.block g hl (fun e' => by have := (owns_ltM h.own.x e'.symm).2; have := hul g hg'; omega))
  · intro a ha g hg'
    have ha' : a < m.x.length + 1 + 2 := by rw [← hlen]; exact ha
    by_cases e0 : a = 0
    · subst e0
      have e : g = gg := by simpa [mv, Value.ownBlock] using hg'.symm
      rcases hat with h1 | h1
      · exact h.own.far 0 (by omega) g (e ▸ h1)
      · have := h.own.sb; exact .inr (by omega)
    · by_cases e1 : a = m.x.length + 2
      · subst e1; rw [new] at hg'; have := hul g hg'; have := h.own.sb; exact .inr (by omega)
      · rw [old a (by omega) e0] at hg'
        exact h.own.far a (by omega) g hg'
  · refine apart_upd (N := m.x.length + 2) (S := w.heap.size) (f := fun a => (mv vt ve wv a).ownBlock) h.own.apart (fun a ha g hg' => (h.own.lt a ha g hg').2) (fun a ha g hg' => ?_) (fun a b ha hb' hab g hS h1 h2 => ?_)
    · have ha' : a < m.x.length + 1 + 2 := by rw [← hlen]; exact ha
      by_cases e0 : a = 0
      · subst e0
        have e : g = gg := by simpa [mv, Value.ownBlock] using hg'.symm
        rcases hat with h1 | h1
        · exact .inl ⟨by omega, e ▸ h1⟩
        · exact .inr (by omega)
      · by_cases e1 : a = m.x.length + 2
        · subst e1; rw [new] at hg'; have := hul g hg'; exact .inr (by omega)
        · rw [old a (by omega) e0] at hg'
          exact .inl ⟨by omega, hg'⟩
    · have key : ∀ c, c < (m.x ++ [(⟨i, s, r⟩ : Td)]).length + 2 → (mv (.slice (some ⟨gg, 0, none⟩) (m.x.length + 1) cap) ve (wsnocU m.x.length wv u) c).ownBlock = some g → (c = 0 ∧ g = gg) ∨ (c = m.x.length + 2 ∧ u.ownBlock = some g) := fun c hc e => by
        rw [hlen] at hc
        by_cases e0 : c = 0
        · subst e0
          exact .inl ⟨rfl, by simpa [mv, Value.ownBlock] using e.symm⟩
        · by_cases e1 : c = m.x.length + 2
          · subst e1; rw [new] at e; exact .inr ⟨rfl, e⟩
          · rw [old c (by omega) e0] at e
            have := (h.own.lt c (by omega) g e).2
            omega
      have gne : ∀ g', u.ownBlock = some g' → g' ≠ gg := fun g' hg' e => by
        have h1 := hul g' hg'
        rcases hat with h2 | h2
        · have := (owns_ltM h.own.x h2).2; omega
        · omega
      rcases key a ha h1 with ⟨a1, a2⟩ | ⟨a1, a2⟩ <;> rcases key b hb' h2 with ⟨b1, b2⟩ | ⟨b1, b2⟩
      · exact hab (a1.trans b1.symm)
      · exact gne g b2 a2
      · exact gne g a2 b2
      · exact hab (a1.trans b1.symm)
  · have hb5 := (h.box.of_block (hk5 B hBl hgg)).set 3 (.slice (some ⟨gg, 0, none⟩) (m.x.length + 1) cap)
    refine hb5.congr fun j hj => ?_
    match j, hj with
    | 0, _ => rfl
    | 1, _ => rfl
    | 2, _ => rfl
    | 3, _ => rfl
    | 4, _ => rfl
  · intro a ha e
    have ha' : a < m.x.length + 1 + 2 := by rw [← hlen]; exact ha
    by_cases e0 : a = 0
    · subst e0
      exact hggB (by simpa [mv, Value.ownBlock] using e)
    · by_cases e1 : a = m.x.length + 2
      · subst e1; rw [new] at e; have := hul B e; omega
      · rw [old a (by omega) e0] at e
        exact h.apart a (by omega) e
  · have b1 : Below base w w1 := hb.mono (by have := h.base; omega)
    have b5 : Below base w1 w5 := ⟨hg.os, hg.tape, hg.output, hg.size, fun k hk' => hg.block k (by have := h.base; omega) (fun e => by have := (owns_ltM h.own.x e.symm).1; omega)⟩
    exact (b1.trans b5).setCell (p := ⟨B, 3, none⟩) h.base _
end
end Go.Proofs.YtmecbppblbmchaaGreatDoor
