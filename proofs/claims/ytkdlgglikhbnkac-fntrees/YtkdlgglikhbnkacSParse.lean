/- spec.Parse reads a text as the same procedures. -/
import Derived.Test.YtkdlgglikhbnkacSProc
import Derived.Test.YtkdlgglikhbnkacPParse4
import Derived.Test.YtkdlgglikhbnkacLex8
namespace Go.Proofs.Ytkdlgglikhbnkac
open Go.ChangeShapes Go.WideShapes Go.ChangeAt Go.RowKit
set_option linter.unusedVariables false
set_option maxRecDepth 100000
attribute [local go_sem ↓] Go.wp_at_zero Go.wp_at_succ

theorem lexGo_sign (s : ByteArray) (i : Nat) (acc : List Tk) : (lexGo s i acc).2 = -1 ∨ 0 ≤ (lexGo s i acc).2 := by
  rw [lexGo]
  split
  · split
    · exact lexGo_sign s (i + 1) acc
    · split
      · right; show (0 : Int) ≤ (i : Int); omega
      · split
        · exact lexGo_sign s _ _
        · right; show (0 : Int) ≤ (i : Int); omega
  · left; rfl
termination_by s.size - i
theorem lexF_sign (s : ByteArray) : (lexF s).2 = -1 ∨ 0 ≤ (lexF s).2 := by
  unfold lexF
  split
  · right; exact Int.le_refl _
  · exact lexGo_sign s 0 []

theorem Mv.sbelow {base rb : Nat} {T : List Tk} {tv pv : Value} {w w' : World} {i d : Nat} {nv nv' : Value} {q q' : List Qn} (h : Mv rb w nv q w' nv' q') (hr : Sd base rb T tv pv w i d nv q) : Below base w w' :=
  ⟨h.os, h.tape, h.output, h.size, fun g hg => h.block g (by have := hr.row.lt; have := hr.rb0; omega) (by have := hr.rb0; omega) (fun e => by have := (own_lt hr.own.row e).1; omega)⟩
theorem Gz.sbelow {base rb : Nat} {T : List Tk} {tv pv : Value} {w w' : World} {i d : Nat} {nv : Value} {q : List Qn} (h : Gz rb w nv w') (hr : Sd base rb T tv pv w i d nv q) : Below base w w' :=
  ⟨h.os, h.tape, h.output, h.size, fun g hg => h.block g (by have := hr.row.lt; have := hr.rb0; omega) (by have := hr.rb0; omega) (fun e => by have := (own_lt hr.own.row e).1; omega)⟩

theorem spf_set4 (tv : Value) (i : Nat) (d : Int) (nv pv pv' : Value) (b : Bool) : ∀ k, k < 6 → (if k = 4 then pv' else spf tv i d nv pv b k) = spf tv i d nv pv' b k := fun k hk => by
  match k, hk with
  | 0, _ => rfl
  | 1, _ => rfl
  | 2, _ => rfl
  | 3, _ => rfl
  | 4, _ => rfl
  | 5, _ => rfl

/-- Behind an append to the procedures, and its store. -/
theorem Sd.grownP {base rb : Nat} {T : List Tk} {tv pv pv' : Value} {w w8 : World} {i d : Nat} {nv : Value} {q : List Qn} {p : List Qp} {o : Obj} (h : Sd base rb T tv pv w i d nv q) (hP : OwnP base w pv p) (hF : FarP 0 rb nv q pv p) (hgrow : (w.alloc o).grownBy w8 pv.ownBlock) :
    Sd base rb T tv pv' (w8.setCell ⟨rb, 4, none⟩ pv') i d nv q ∧ Below base w (w8.setCell ⟨rb, 4, none⟩ pv') ∧ ∀ g, g < w.heap.size → pv.ownBlock ≠ some g → w8.heap[g]? = w.heap[g]? := by
  have hz : w.heap.size + 1 ≤ w8.heap.size := by have := hgrow.size; simpa using this
  have hrl := h.row.lt
  have hrb := h.rb0
  have kb : ∀ g, g < w.heap.size → pv.ownBlock ≠ some g → w8.heap[g]? = w.heap[g]? := fun g hg hne => (hgrow.block g (by simp; omega) (fun e => hne e.symm)).trans (Below.heap_alloc _ _ _ hg)
  have hk : ∀ g, g ≠ rb → (w8.setCell ⟨rb, 4, none⟩ pv').heap[g]? = w8.heap[g]? := fun g hg => Below.heap_setCell _ _ _ _ hg
  have hz8 : (w8.setCell ⟨rb, 4, none⟩ pv').heap.size = w8.heap.size := by simp [World.setCell]
  have hlow : ∀ g, g < base → (w8.setCell ⟨rb, 4, none⟩ pv').heap[g]? = w.heap[g]? := fun g hg => by
    rw [hk g (by omega), kb g (by omega) (fun e => by have := (own_lt hP.row e).1; omega)]
  refine ⟨⟨((h.row.of_block (kb rb hrl fun e => (hF rb (.inl e)).2.1 rfl)).set 4 pv').congr (spf_set4 _ _ _ _ _ _ _), h.words.keep (fun g hg _ => hlow g hg) (by omega), h.own.keep (fun g hg hl => ?_), hrb, h.nvb, h.kib, h.hi, h.hd, h.hq⟩, ⟨hgrow.os, hgrow.tape, hgrow.output, by omega, hlow⟩, kb⟩
  have e1 : g ≠ rb := fun e => by
    subst e
    rcases hg with hg | ⟨j, hj, hg⟩
    · exact h.nvb hg
    · exact h.kib j hj hg
  rw [hk g e1]
  refine kb g hl (fun e => ?_)
  obtain ⟨_, _, a2, a3⟩ := hF g (.inl e)
  rcases hg with hg | ⟨j, hj, hg⟩
  · exact a2 hg
  · exact a3 j hj hg
theorem Bd.grownP {base rb : Nat} {T : List Tk} {tv pv pv' : Value} {w w8 : World} {i : Nat} {o : Obj} (h : Bd base rb T tv pv w i) (hlo : ∀ g, pv.ownBlock = some g → base ≤ g ∧ g ≠ rb) (hgrow : (w.alloc o).grownBy w8 pv.ownBlock) :
    Bd base rb T tv pv' (w8.setCell ⟨rb, 4, none⟩ pv') i ∧ Below base w (w8.setCell ⟨rb, 4, none⟩ pv') ∧ w8.heap[rb]? = w.heap[rb]? := by
  have hz : w.heap.size + 1 ≤ w8.heap.size := by have := hgrow.size; simpa using this
  have hrl := h.lt
  have hrb := h.rb0
  have kb : ∀ g, g < w.heap.size → pv.ownBlock ≠ some g → w8.heap[g]? = w.heap[g]? := fun g hg hne => (hgrow.block g (by simp; omega) (fun e => hne e.symm)).trans (Below.heap_alloc _ _ _ hg)
  have hk : ∀ g, g ≠ rb → (w8.setCell ⟨rb, 4, none⟩ pv').heap[g]? = w8.heap[g]? := fun g hg => Below.heap_setCell _ _ _ _ hg
  have hz8 : (w8.setCell ⟨rb, 4, none⟩ pv').heap.size = w8.heap.size := by simp [World.setCell]
  have hlow : ∀ g, g < base → (w8.setCell ⟨rb, 4, none⟩ pv').heap[g]? = w.heap[g]? := fun g hg => by
    rw [hk g (by omega), kb g (by omega) (fun e => by have := (hlo g e).1; omega)]
  have krb := kb rb hrl fun e => (hlo rb e).2 rfl
  obtain ⟨d, nv, pv0, hr⟩ := h.row
  have hr' := ((hr.of_block krb).set 4 pv').congr (spf_set4 _ _ _ _ _ _ _)
  exact ⟨⟨hr'.cell (j := 4) (by omega), ⟨d, nv, pv', hr'⟩, h.words.keep (fun g hg _ => hlow g hg) (by omega), hrb, h.hi⟩, ⟨hgrow.os, hgrow.tape, hgrow.output, by omega, hlow⟩, krb⟩

/-- What is known at each round of reading procedures. -/
def PLoop (base rb : Nat) (T : List Tk) (tv : Value) (TOP : PR (List Pr)) (w2 wr : World) : Prop :=
  Below base w2 wr ∧ ((∃ (m : Nat) (p : List Qp) (i' : Nat) (nv' : Value) (q' : List Qn) (pa : Option Addr) (pc : Nat), Sd base rb T tv (.slice pa p.length pc) wr i' 0 nv' q' ∧ OwnP base wr (.slice pa p.length pc) p ∧ FarP 0 rb nv' q' (.slice pa p.length pc) p ∧ T.length - i' ≤ m ∧ TOP = wholeL T m (qprs p) i' (qnds q') ∧ p.length ≤ i') ∨ (∃ (i' : Nat) (pv : Value), Bd base rb T tv pv wr i' ∧ TOP = .bad i'))

/-- What Parse answers, by what reading has come to. -/
def parseR (T : List Tk) (len : Nat) (r : PR (List Pr)) : (List Nd × List Pr) × Int := match r with
  | .bad i => (([], []), placeT T len i)
  | .ok ps i ns => if 800 < ns.length then (([], []), placeT T len i) else ((ns, ps), -1)
theorem parseT_R (T : List Tk) (len : Nat) : parseT T len = parseR T len (wholeL T T.length [] 0 []) := rfl

theorem rowOf_fresh2 (w : World) (a b : Value) (E : TypeId) : RowOf (w.alloc (Obj.cells #[a, b] E)) w.heap.size E 2 (pf a b b) := by
  refine ⟨#[a, b], heap_alloc_new w _, by simp, fun j hj => ?_⟩
  match j, hj with
  | 0, _ => rfl
  | 1, _ => rfl

set_option maxHeartbeats 8000000 in
theorem specParse_any (s : ByteArray) (w : World) (hs : s.size ≤ 9223372036854775807) :
    Calls Try.prog 6 #[.string s] w (ParseA w (parseF s).2 (parseF s).1.1 (parseF s).1.2) := by
  have hlen := lexF_length s
  obtain ⟨iI, hII, hzi0, hzi1, hzi2⟩ := info_parts infoPr
  have bA : Below w.heap.size w (w.alloc (Obj.cells #[.slice none 0 0, .slice none 0 0] 27)) := (Below.refl _ _).alloc (Nat.le_refl _) _
  have RA := rowOf_fresh2 w (.slice none 0 0) (.slice none 0 0) 27
  go_enter Try.func6, Try.ntmps6
  go_wp2_with fail
  obtain ⟨B0, hB0⟩ : ∃ b, b = w.heap.size := ⟨_, rfl⟩
  rw [← hB0] at RA ⊢
  have hBw : w.heap.size ≤ B0 := by omega
  clear hB0
  generalize w.alloc (Obj.cells #[.slice none 0 0, .slice none 0 0] 27) = wA at *
  refine (specLex_any s _).mono ?_
  rintro e w2 ⟨v2, rfl, hO2, hb2⟩
  have R2 := RA.of_block (hb2.block _ RA.lt)
  have b2 : Below w.heap.size w w2 := bA.trans (hb2.mono bA.size)
  have hB2 := R2.lt
  clear RA bA
  rcases lexF_sign s with hk | hk
  · obtain ⟨a2, c2', hv2⟩ := own_slice hO2
    have hpf : parseF s = parseT (lexF s).1 s.size := by rw [parseF, if_pos hk]
    have hT := goods_lex hk
    rw [hk]
    clear hk
    subst hv2
    generalize (lexF s).1 = T at *
    have hSd : Sd w2.heap.size w2.heap.size T (.slice a2 T.length c2') (.slice none 0 0) (w2.alloc (Obj.cells #[.slice a2 T.length c2', .int .i64 0, .int .i64 0, .slice none 0 0, .slice none 0 0, .bool false] 55)) 0 0 (.slice none 0 0) [] := by
      refine ⟨⟨_, heap_alloc_new _ _, by simp, fun j hj => ?_⟩, ⟨a2, c2', rfl, hlen, fun hp => ?_⟩, OwnN.nil _ _, Nat.le_refl _, by simp [Value.ownBlock], fun k hk => absurd hk (Nat.not_lt_zero _), Nat.zero_le _, by omega, Nat.le_refl _⟩
      · match j, hj with
        | 0, _ => rfl
        | 1, _ => rfl
        | 2, _ => rfl
        | 3, _ => rfl
        | 4, _ => rfl
        | 5, _ => rfl
      · obtain ⟨g, cap, hv, h1, h2, h3⟩ := toks_of_owns hO2 hp
        cases hv
        refine ⟨g, rfl, h2, by simp; omega, fun i hi => ?_⟩
        obtain ⟨t0, t1, t2, t3⟩ := h3 i hi
        have bb : Below w2.heap.size w2 (w2.alloc (Obj.cells #[.slice (some ⟨g, 0, none⟩) T.length c2', .int .i64 0, .int .i64 0, .slice none 0 0, .slice none 0 0, .bool false] 55)) := (Below.refl _ _).alloc (Nat.le_refl _) _
        exact ⟨cell_stays bb t0, cell_stays bb t1, cell_stays bb t2, cell_stays bb t3⟩
    have bb : Below w2.heap.size w2 (w2.alloc (Obj.cells #[.slice a2 T.length c2', .int .i64 0, .int .i64 0, .slice none 0 0, .slice none 0 0, .bool false] 55)) := (Below.refl _ _).alloc (Nat.le_refl _) _
    obtain ⟨TOP, hTOP⟩ : ∃ r, wholeL T T.length [] 0 [] = r := ⟨_, rfl⟩
    have hpl : Hid (PLoop w2.heap.size w2.heap.size T (.slice a2 T.length c2') TOP w2 (w2.alloc (Obj.cells #[.slice a2 T.length c2', .int .i64 0, .int .i64 0, .slice none 0 0, .slice none 0 0, .bool false] 55))) :=
      ⟨bb, .inl ⟨T.length, [], 0, .slice none 0 0, [], none, 0, hSd, OwnP.nil _ _, fun g hg => (pown_nil hg).elim, by omega, hTOP.symm, Nat.le_refl _⟩⟩
    have hpf2 : Hid (parseF s = parseR T s.size TOP) := by show _ = _; rw [hpf, parseT_R, hTOP]
    clear hpf hTOP hSd bb hO2 hb2
    go_wp2_with fail
    obtain ⟨rb, hrb⟩ : ∃ b, b = w2.heap.size := ⟨_, rfl⟩
    rw [← hrb] at hpl hB2 ⊢
    have hwrb : w.heap.size ≤ rb := by have := b2.size; omega
    have Rof : ∀ x : World, Below rb w2 x → RowOf x B0 27 2 (pf (.slice none 0 0) (.slice none 0 0) (.slice none 0 0)) := fun x hx => R2.of_block (hx.block _ hB2)
    have Bof : ∀ x : World, Below rb w2 x → Below w.heap.size w x := fun x hx => b2.trans (hx.mono hwrb)
    clear hrb R2 b2
    generalize w2.alloc (Obj.cells #[.slice a2 T.length c2', .int .i64 0, .int .i64 0, .slice none 0 0, .slice none 0 0, .bool false] 55) = w3 at *
    have hsb : ∀ y : World, (Instr.build 27 #[]).run Try.prog y = .ok (.agg #[.slice none 0 0, .slice none 0 0]) y := fun y => by kernel_rfl
    go_loopw [] (fun wr => PLoop rb rb T (.slice a2 T.length c2') TOP w2 wr) (fun wr => sFar wr rb T.length)
    case atStart => exact hpl.out
    case round =>
      clear hpl w3
      rename World => wo
      obtain ⟨hB, ⟨m, p, i', nv', q', pa, pc, hR, hP, hF, hm, hres, hpl⟩ | ⟨i', pv, hR, hres⟩⟩ := hrel
      · change Hid _ at hres
        have hpo := hR.far
        change Hid _ at hpo
        have hti := hR.hi
        have hqi := hR.hq
        have c1 : wo.cell? ⟨rb, 1, none⟩ = some (.int .i64 (i' : Int)) := hR.row.cell (by omega)
        have c5 : wo.cell? ⟨rb, 5, none⟩ = some (.bool false) := hR.row.cell (by omega)
        have c4 : wo.cell? ⟨rb, 4, none⟩ = some (.slice pa p.length pc) := hR.row.cell (by omega)
        by_cases hlt : i' < T.length
        · have hlt' : (i' : Int) < (T.length : Int) := by omega
          obtain ⟨m1, rfl⟩ : ∃ m1, m = m1 + 1 := ⟨m - 1, by omega⟩
          replace hres := hres.out; rw [wholeL_more hlt] at hres; change Hid _ at hres
          go_wp2_with fail
          refine (sproc_any hT (n := m1 + 1) hR (by omega)).mono ?_
          rcases hs : procG T (m1 + 1) i' (qnds q') with ⟨x, i6, ns6⟩ | ib
          · rintro e w6 ⟨xa, xc, rfl, nv6, q6, hR6, rfl, m6, hL6, fa6, fb6⟩
            have fc6 := hR6.hi
            replace hres := hres.out; rw [hs, PR.then_ok] at hres; change Hid _ at hres
            obtain ⟨hP6, hF6⟩ := hP.mv hF m6
            have hdis : ∀ g, (Value.slice xa x.ps.length xc).ownBlock = some g → ¬ pown (.slice pa p.length pc) p g := fun g hg hp => by
              have := hL6.low g hg
              have := (hP.lt hp).2
              omega
            have hB6 := hB.trans (m6.sbelow hR)
            have bX : Below w6.heap.size w6 (w6.alloc (Obj.cells #[.string x.name, .slice xa x.ps.length xc, .int .i64 x.body] 36)) := (Below.refl _ _).alloc (Nat.le_refl _) _
            have hR7 := hR6.stays bX
            obtain ⟨hP7, hF7⟩ := hP6.mv hF6 (Mv.of_below bX)
            have hL7 := own_keep (w' := (w6.alloc (Obj.cells #[.string x.name, .slice xa x.ps.length xc, .int .i64 x.body] 36))) hL6.row fun g hg hl => bX.block g hl
            have hB7 := hB6.trans (bX.mono (by have := hR6.base_le; omega))
            have y0 : (w6.alloc (Obj.cells #[.string x.name, .slice xa x.ps.length xc, .int .i64 x.body] 36)).cell? ⟨w6.heap.size, 0, none⟩ = some (.string x.name) := by simp [go_sem]
            have y1 : (w6.alloc (Obj.cells #[.string x.name, .slice xa x.ps.length xc, .int .i64 x.body] 36)).cell? ⟨w6.heap.size, 1, none⟩ = some (.slice xa x.ps.length xc) := by simp [go_sem]
            have y2 : (w6.alloc (Obj.cells #[.string x.name, .slice xa x.ps.length xc, .int .i64 x.body] 36)).cell? ⟨w6.heap.size, 2, none⟩ = some (.int .i64 x.body) := by simp [go_sem]
            have y4 : (w6.alloc (Obj.cells #[.string x.name, .slice xa x.ps.length xc, .int .i64 x.body] 36)).cell? ⟨rb, 4, none⟩ = some (.slice pa p.length pc) := hR7.row.cell (by omega)
            have yf : (w6.alloc (Obj.cells #[.string x.name, .slice xa x.ps.length xc, .int .i64 x.body] 36)).frozen? ⟨rb, 4, none⟩ = false := hR7.row.frozen 4
            have hz7 : (w6.alloc (Obj.cells #[.string x.name, .slice xa x.ps.length xc, .int .i64 x.body] 36)).heap.size = w6.heap.size + 1 := by simp
            have hnew := heap_alloc_new (w6.alloc (Obj.cells #[.string x.name, .slice xa x.ps.length xc, .int .i64 x.body] 36)) (Obj.cells #[.string x.name, .slice xa x.ps.length xc, .int .i64 x.body] 36)
            rw [hz7] at hnew
            have hbl := hR6.base_le
            clear hs hP hF hR c1 c4 c5 hP6 hF6
            go_wp2_with (at_builtin; refine wpList_append_lies _ rfl _ _ 25 rfl rb 36 iI _ 3 48 Try.underlying25 hII hzi0 hzi1 hzi2 rfl (by decide) _ p.length (pcells p) rfl (hP7.row.alloc _) ⟨w6.heap.size + 1, 0, none⟩ 1 1 [.string x.name, .slice xa x.ps.length xc, .int .i64 x.body] rfl rfl (World.news_of_block hnew) (by simp [Value.oneCell']) (by simp) (by unfold maxLen; omega) (by omega) (by simp; omega) (w6.heap.size + 2) (by simp) ?_; intro g8 cap8 w8 hown8 hgrow8 hat8 hlt8; obtain ⟨hR9, hB9, kb8⟩ := hR7.grownP (pv' := .slice (some ⟨g8, 0, none⟩) (p.length + 1) cap8) hP7 hF7 hgrow8; have hc8 : w8.cell? ⟨rb, 4, none⟩ = some (.slice pa p.length pc) := cell_same (kb8 rb hR7.row.lt (fun e => (hF7 rb (.inl e)).2.1 rfl)) y4; have hf8 : w8.frozen? ⟨rb, 4, none⟩ = false := (by rw [World.frozen?_of_block (a := ⟨rb, 4, none⟩) (kb8 rb hR7.row.lt (fun e => (hF7 rb (.inl e)).2.1 rfl))]; exact yf))
            have hP8 : OwnP rb w8 (.slice (some ⟨g8, 0, none⟩) (p.length + 1) cap8) (p ++ [(x, .slice xa x.ps.length xc)]) := hP7.snoc hL7 hdis hown8 kb8 (fun g hg => by
              have hg' : some g8 = some g := hg
              injection hg' with hg'
              subst hg'
              rcases hat8 with e | e
              · exact .inl e
              · exact .inr (by omega))
            have hF9 : FarP 0 rb nv6 q6 (.slice (some ⟨g8, 0, none⟩) (p.length + 1) cap8) (p ++ [(x, .slice xa x.ps.length xc)]) := fun g hg => by
              rcases hg with hg | ⟨j, hj, hg⟩
              · have hg' : some g8 = some g := hg
                injection hg' with hg'
                subst hg'
                rcases hat8 with e | e
                · exact hF7 g8 (.inl e)
                · refine ⟨Nat.zero_le _, by have := hR6.row.lt; omega, fun e2 => ?_, fun k hk e2 => ?_⟩
                  · have := (own_lt hR6.own.row e2).2; omega
                  · have := (own_lt (hR6.own.lists k hk) e2).2; omega
              · by_cases hjl : j < p.length
                · rw [qpAt_snoc_lt _ _ hjl] at hg
                  exact hF7 g (.inr ⟨j, hjl, hg⟩)
                · have ej : j = p.length := by simp at hj; omega
                  subst ej
                  rw [qpAt_snoc_eq] at hg
                  exact ⟨Nat.zero_le _, hL6.apart g hg⟩
            have hP9 := hP8.keep (w' := w8.setCell ⟨rb, 4, none⟩ (.slice (some ⟨g8, 0, none⟩) (p.length + 1) cap8)) fun g hg _ => Below.heap_setCell _ _ _ _ (hF9 g hg).2.1
            have hres9 : Hid (TOP = wholeL T m1 (qprs (p ++ [((x, .slice xa x.ps.length xc) : Qp)])) i6 (qnds q6)) := by show _ = _; rw [qprs_snoc]; exact hres.out
            have hp9 := hR9.far
            change Hid _ at hp9
            have hBB := hB7.trans hB9
            clear hown8 hgrow8 hat8 hlt8 y0 y1 y2 y4 yf hnew hP8 hR7 hP7 hF7 hL7 hB9 hB7
            go_wp2
            go_roundw
            case rel => exact ⟨hBB, .inl ⟨m1, p ++ [(x, .slice xa x.ps.length xc)], i6, nv6, q6, some ⟨g8, 0, none⟩, cap8, by simpa using hR9, by simpa using hP9, by simpa using hF9, by omega, hres9.out, by simp; omega⟩⟩
            case measure => rw [hpo.out, hp9.out]; omega
          · rintro e w6 ⟨xn, xa, xm, xc, xb, rfl, hR6, hG6⟩
            replace hres := hres.out; rw [hs, PR.then_bad] at hres; change Hid _ at hres
            have hP6 : OwnP rb w6 (.slice pa p.length pc) p := hP.keep fun g hg hl => hG6.block g hl (hF g hg).2.1 (hF g hg).2.2.1
            have hB6 := hB.trans (hG6.sbelow hR)
            have bX : Below w6.heap.size w6 (w6.alloc (Obj.cells #[.string xn, .slice xa xm xc, .int .i64 xb] 36)) := (Below.refl _ _).alloc (Nat.le_refl _) _
            have hR7 := hR6.stays bX
            have hP7 : OwnP rb (w6.alloc (Obj.cells #[.string xn, .slice xa xm xc, .int .i64 xb] 36)) (.slice pa p.length pc) p := hP6.keep fun g hg hl => bX.block g hl
            have hbl : rb ≤ w6.heap.size := Nat.le_of_lt hR6.lt
            have hB7 := hB6.trans (bX.mono hbl)
            have y0 : (w6.alloc (Obj.cells #[.string xn, .slice xa xm xc, .int .i64 xb] 36)).cell? ⟨w6.heap.size, 0, none⟩ = some (.string xn) := by simp [go_sem]
            have y1 : (w6.alloc (Obj.cells #[.string xn, .slice xa xm xc, .int .i64 xb] 36)).cell? ⟨w6.heap.size, 1, none⟩ = some (.slice xa xm xc) := by simp [go_sem]
            have y2 : (w6.alloc (Obj.cells #[.string xn, .slice xa xm xc, .int .i64 xb] 36)).cell? ⟨w6.heap.size, 2, none⟩ = some (.int .i64 xb) := by simp [go_sem]
            have y4 : (w6.alloc (Obj.cells #[.string xn, .slice xa xm xc, .int .i64 xb] 36)).cell? ⟨rb, 4, none⟩ = some (.slice pa p.length pc) := hR7.c4
            have yf : (w6.alloc (Obj.cells #[.string xn, .slice xa xm xc, .int .i64 xb] 36)).frozen? ⟨rb, 4, none⟩ = false := by obtain ⟨_, _, _, hr7⟩ := hR7.row; exact hr7.frozen 4
            have hz7 : (w6.alloc (Obj.cells #[.string xn, .slice xa xm xc, .int .i64 xb] 36)).heap.size = w6.heap.size + 1 := by simp
            have hnew := heap_alloc_new (w6.alloc (Obj.cells #[.string xn, .slice xa xm xc, .int .i64 xb] 36)) (Obj.cells #[.string xn, .slice xa xm xc, .int .i64 xb] 36)
            rw [hz7] at hnew
            have hlo : ∀ g, (Value.slice pa p.length pc).ownBlock = some g → rb ≤ g ∧ g ≠ rb := fun g hg => ⟨(hP.lt (.inl hg)).1, (hF g (.inl hg)).2.1⟩
            clear hs hP hF hR c1 c4 c5 hP6
            go_wp2_with (at_builtin; refine wpList_append_lies _ rfl _ _ 25 rfl rb 36 iI _ 3 48 Try.underlying25 hII hzi0 hzi1 hzi2 rfl (by decide) _ p.length (pcells p) rfl (hP7.row.alloc _) ⟨w6.heap.size + 1, 0, none⟩ 1 1 [.string xn, .slice xa xm xc, .int .i64 xb] rfl rfl (World.news_of_block hnew) (by simp [Value.oneCell']) (by simp) (by unfold maxLen; omega) (by omega) (by simp; omega) (w6.heap.size + 2) (by simp) ?_; intro g8 cap8 w8 hown8 hgrow8 hat8 hlt8; obtain ⟨hR9, hB9, kb8⟩ := hR7.grownP (pv' := .slice (some ⟨g8, 0, none⟩) (p.length + 1) cap8) hlo hgrow8; have hc8 : w8.cell? ⟨rb, 4, none⟩ = some (.slice pa p.length pc) := cell_same kb8 y4; have hf8 : w8.frozen? ⟨rb, 4, none⟩ = false := (by rw [World.frozen?_of_block (a := ⟨rb, 4, none⟩) kb8]; exact yf))
            have hp9 := hR9.far
            change Hid _ at hp9
            have hBB := hB7.trans hB9
            clear hown8 hgrow8 hat8 hlt8 y0 y1 y2 y4 yf hnew hR7 hP7 hB9 hB7
            go_wp2
            go_roundw
            case rel => exact ⟨hBB, .inr ⟨ib, _, hR9, hres.out⟩⟩
            case measure => rw [hpo.out, hp9.out]; omega
        · have hlt' : ¬ (i' : Int) < (T.length : Int) := by omega
          have hie : i' = T.length := by omega
          replace hres := hres.out; rw [wholeL_end hlt] at hres; change Hid _ at hres
          obtain ⟨na, nc, rfl⟩ := own_slice hR.own.row
          have c3 : wo.cell? ⟨rb, 3, none⟩ = some (.slice na q'.length nc) := hR.row.cell (by omega)
          have hlq : (qnds q').length = q'.length := qnds_length q'
          have RB := Rof _ hB
          have r0 : wo.cell? ⟨B0, 0, none⟩ = some (.slice none 0 0) := RB.cell (by omega)
          have r1 : wo.cell? ⟨B0, 1, none⟩ = some (.slice none 0 0) := RB.cell (by omega)
          have rf : ∀ j, wo.frozen? ⟨B0, j, none⟩ = false := fun j => RB.frozen j
          have bW := Bof _ hB
          by_cases hbig : 800 < q'.length
          · have hbig' : (800 : Int) < (q'.length : Int) := by omega
            have hpf3 : Hid (parseF s = (([], []), (s.size : Int))) := by
              show _ = _
              rw [hpf2.out, hres.out]
              show (if 800 < (qnds q').length then _ else _) = _
              rw [hlq, if_pos hbig, placeT, if_pos hie]
            clear hlq
            go_wp2
            rw [hpf3.out]
            refine bodyPost_ret (v := .tuple #[.agg #[.slice none 0 0, .slice none 0 0], .int .i64 (s.size : Int)]) (by simp [results, Try.results6, go_sem, r0, r1]) rfl ?_
            exact parseA_none ((bW.setCell (by exact hBw) _).setCell (by exact hBw) _)
          · have hbig' : ¬ (800 : Int) < (q'.length : Int) := by omega
            have hpf3 : Hid (parseF s = ((qnds q', qprs p), -1)) := by
              show _ = _
              rw [hpf2.out, hres.out]
              show (if 800 < (qnds q').length then _ else _) = _
              rw [hlq, if_neg hbig]
            clear hlq
            go_wp2
            rw [hpf3.out]
            refine bodyPost_ret (v := .tuple #[.agg #[.slice na q'.length nc, .slice pa p.length pc], .int .i64 (-1)]) (by simp [results, Try.results6, go_sem, r0, r1]) rfl ?_
            have hkk : ∀ g, rb ≤ g → ((wo.setCell ⟨B0, 0, none⟩ (.slice na q'.length nc)).setCell ⟨B0, 1, none⟩ (.slice pa p.length pc)).heap[g]? = wo.heap[g]? := fun g hg => by
              rw [Below.heap_setCell _ _ _ _ (by show g ≠ B0; omega), Below.heap_setCell _ _ _ _ (by show g ≠ B0; omega)]
            refine ⟨na, nc, q', pa, pc, p, rfl, ownN_low (hR.own.keep fun g hg _ => hkk g ?_) hwrb, rfl, ownP_low (hP.keep fun g hg _ => hkk g (hP.lt hg).1) hwrb, rfl, fun g hg => ⟨(hF g hg).2.2.1, (hF g hg).2.2.2⟩, (bW.setCell (by exact hBw) _).setCell (by exact hBw) _⟩
            rcases hg with hg | ⟨k, hk, hg⟩
            · exact (own_lt hR.own.row hg).1
            · exact (own_lt (hR.own.lists k hk) hg).1
      · change Hid _ at hres
        have hti := hR.hi
        obtain ⟨d3, nv3, pv3, hr3⟩ := id hR.row
        have c1 : wo.cell? ⟨rb, 1, none⟩ = some (.int .i64 (i' : Int)) := hr3.cell (by omega)
        have c5 : wo.cell? ⟨rb, 5, none⟩ = some (.bool true) := hr3.cell (by omega)
        have RB := Rof _ hB
        have r0 : wo.cell? ⟨B0, 0, none⟩ = some (.slice none 0 0) := RB.cell (by omega)
        have r1 : wo.cell? ⟨B0, 1, none⟩ = some (.slice none 0 0) := RB.cell (by omega)
        have rf : ∀ j, wo.frozen? ⟨B0, j, none⟩ = false := fun j => RB.frozen j
        have bW := Bof _ hB
        by_cases hlt : i' < T.length
        · have hlt' : (i' : Int) < (T.length : Int) := by omega
          have i0' : (0 : Int) ≤ (i' : Int) := by omega
          have hpf3 : Hid (parseF s = (([], []), (tkAt T i').p)) := by
            show _ = _
            rw [hpf2.out, hres.out]
            show (([], []), placeT T s.size i') = _
            rw [placeT, if_neg (by omega)]
          obtain ⟨a2', cap2, hv2, _, hw⟩ := hR.words
          cases hv2
          obtain ⟨g, rfl, hg1, hg2, hg3⟩ := hw (by omega)
          obtain ⟨t0, t1, t2, t3⟩ := hg3 i' hlt
          go_wp2_with fail
          go_region
          go_wp2
          rw [hpf3.out]
          refine bodyPost_ret (v := .tuple #[.agg #[.slice none 0 0, .slice none 0 0], .int .i64 (tkAt T i').p]) (by simp [results, Try.results6, go_sem, r0, r1]) rfl ?_
          exact parseA_none ((bW.setCell (by exact hBw) _).setCell (by exact hBw) _).drew
        · have hlt' : ¬ (i' : Int) < (T.length : Int) := by omega
          have hpf3 : Hid (parseF s = (([], []), (s.size : Int))) := by
            show _ = _
            rw [hpf2.out, hres.out]
            show (([], []), placeT T s.size i') = _
            rw [placeT, if_pos (by omega)]
          go_wp2
          rw [hpf3.out]
          refine bodyPost_ret (v := .tuple #[.agg #[.slice none 0 0, .slice none 0 0], .int .i64 (s.size : Int)]) (by simp [results, Try.results6, go_sem, r0, r1]) rfl ?_
          exact parseA_none ((bW.setCell (by exact hBw) _).setCell (by exact hBw) _)
  · have hpf : parseF s = (([], []), (lexF s).2) := by rw [parseF, if_neg (by omega)]
    change Hid _ at hpf
    have r0 : w2.cell? ⟨B0, 0, none⟩ = some (.slice none 0 0) := R2.cell (by omega)
    have r1 : w2.cell? ⟨B0, 1, none⟩ = some (.slice none 0 0) := R2.cell (by omega)
    have rf : ∀ j, w2.frozen? ⟨B0, j, none⟩ = false := fun j => R2.frozen j
    have hb : ∀ y : World, (Instr.build 27 #[]).run Try.prog y = .ok (.agg #[.slice none 0 0, .slice none 0 0]) y := fun y => by kernel_rfl
    go_wp2
    rw [hpf.out]
    refine bodyPost_ret (v := .tuple #[.agg #[.slice none 0 0, .slice none 0 0], .int .i64 (lexF s).2]) (by simp [results, Try.results6, go_sem, r0, r1]) rfl ?_
    exact parseA_none ((b2.setCell (by exact hBw) _).setCell (by exact hBw) _)

end Go.Proofs.Ytkdlgglikhbnkac
