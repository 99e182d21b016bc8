/- The specification's reader: take, want, kind, down, in both modes. -/
import Derived.Test.YtkdlgglikhbnkacSSd
namespace Go.Proofs.Ytkdlgglikhbnkac
open Go.ChangeShapes Go.WideShapes Go.ChangeAt Go.RowKit
set_option linter.unusedVariables false
set_option maxRecDepth 100000
attribute [local go_sem ↓] Go.wp_at_zero Go.wp_at_succ

theorem Sd.set {base rb : Nat} {T : List Tk} {tv pv : Value} {w : World} {i d : Nat} {nv : Value} {q : List Qn} (h : Sd base rb T tv pv w i d nv q) (j : Nat) (v : Value) {i' d' : Nat}
    (hf : ∀ k, k < 6 → (if k = j then v else spf tv i (d : Int) nv pv false k) = spf tv i' (d' : Int) nv pv false k) (hi : i' ≤ T.length) (hd : d' ≤ 30) (hq : q.length ≤ i') : Sd base rb T tv pv (w.setCell ⟨rb, j, none⟩ v) i' d' nv q ∧ Mv rb w nv q (w.setCell ⟨rb, j, none⟩ v) nv q := by
  have hz : (w.setCell ⟨rb, j, none⟩ v).heap.size = w.heap.size := by simp [World.setCell]
  have hk : ∀ g, g ≠ rb → (w.setCell ⟨rb, j, none⟩ v).heap[g]? = w.heap[g]? := fun g hg => Below.heap_setCell _ _ _ _ hg
  refine ⟨⟨(h.row.set j v).congr hf, h.words.keep (fun g hg _ => hk g (by have := h.rb0; omega)) (by omega), h.own.keep (fun g hg _ => hk g (fun e => ?_)), h.rb0, h.nvb, h.kib, hi, hd, hq⟩,
    ⟨rfl, rfl, rfl, by omega, fun g _ hr _ => hk g hr, fun g hg => .inl hg, fun k hk g hg => .inl ⟨k, hk, hg⟩⟩⟩
  rcases hg with hg | ⟨k, hk, hg⟩
  · exact h.nvb (by rw [← e]; exact hg)
  · exact h.kib k hk (by rw [← e]; exact hg)
/-- A reader that goes on gives up. -/
theorem Sd.give {base rb : Nat} {T : List Tk} {tv pv : Value} {w : World} {i d : Nat} {nv : Value} {q : List Qn} (h : Sd base rb T tv pv w i d nv q) : Bd base rb T tv pv (w.setCell ⟨rb, 5, none⟩ (.bool true)) i := by
  have hz : (w.setCell ⟨rb, 5, none⟩ (.bool true)).heap.size = w.heap.size := by simp [World.setCell]
  have hk : ∀ g, g ≠ rb → (w.setCell ⟨rb, 5, none⟩ (.bool true)).heap[g]? = w.heap[g]? := fun g hg => Below.heap_setCell _ _ _ _ hg
  refine ⟨(h.row.set 5 (.bool true)).cell (j := 4) (by omega), ⟨(d : Int), nv, pv, (h.row.set 5 _).congr fun k hk => ?_⟩, h.words.keep (fun g hg _ => hk g (by have := h.rb0; omega)) (by omega), h.rb0, h.hi⟩
  match k, hk with
  | 0, _ => rfl
  | 1, _ => rfl
  | 2, _ => rfl
  | 3, _ => rfl
  | 4, _ => rfl
  | 5, _ => rfl
theorem Bd.set {base rb : Nat} {T : List Tk} {tv pv : Value} {w : World} {i : Nat} (h : Bd base rb T tv pv w i) (j : Nat) (v : Value)
    (hf : ∀ d nv pv, ∃ d' nv' pv', ∀ k, k < 6 → (if k = j then v else spf tv i d nv pv true k) = spf tv i d' nv' pv' true k) (hj : j ≠ 4 := by decide) : Bd base rb T tv pv (w.setCell ⟨rb, j, none⟩ v) i := by
  have hz : (w.setCell ⟨rb, j, none⟩ v).heap.size = w.heap.size := by simp [World.setCell]
  have hk : ∀ g, g ≠ rb → (w.setCell ⟨rb, j, none⟩ v).heap[g]? = w.heap[g]? := fun g hg => Below.heap_setCell _ _ _ _ hg
  obtain ⟨d, nv, pv0, hr⟩ := h.row
  obtain ⟨d', nv', pv', hf⟩ := hf d nv pv0
  have e4 : w.cell? ⟨rb, 4, none⟩ = some pv0 := hr.cell (j := 4) (by omega)
  have c4 : (w.setCell ⟨rb, j, none⟩ v).cell? ⟨rb, 4, none⟩ = some pv := by
    have h4 := (hr.set j v).cell (j := 4) (by omega)
    rw [if_neg (fun e => hj e.symm)] at h4
    rw [h4, ← h.c4, e4]
    rfl
  exact ⟨c4, ⟨d', nv', pv', (hr.set j v).congr hf⟩, h.words.keep (fun g hg _ => hk g (by have := h.rb0; omega)) (by omega), h.rb0, h.hi⟩
theorem Bd.again {base rb : Nat} {T : List Tk} {tv pv : Value} {w : World} {i : Nat} (h : Bd base rb T tv pv w i) : Bd base rb T tv pv (w.setCell ⟨rb, 5, none⟩ (.bool true)) i :=
  h.set 5 _ fun d nv pv => ⟨d, nv, pv, fun k hk => by
    match k, hk with
    | 0, _ => rfl
    | 1, _ => rfl
    | 2, _ => rfl
    | 3, _ => rfl
    | 4, _ => rfl
    | 5, _ => rfl⟩
theorem Mv.fz {rb : Nat} {w w' w'' : World} {nv nv' : Value} {q q' : List Qn} (h : Mv rb w nv q w' nv' q') (k : Fz rb w' w'') : Mv rb w nv q w'' nv' q' :=
  ⟨k.os.trans h.os, k.tape.trans h.tape, k.output.trans h.output, Nat.le_trans h.size k.size, fun g hl hr hn => by rw [k.block g (Nat.lt_of_lt_of_le hl h.size) hr, h.block g hl hr hn], h.ownv, h.kids⟩

theorem isB_lt {T : List Tk} {i : Nat} {x : ByteArray} (h : isB T i x = true) : i < T.length := by
  by_cases hl : i < T.length
  · exact hl
  · unfold isB at h
    rw [wS_end (by omega)] at h
    simp [tk0] at h

/-- take, of a reader that goes on. -/
theorem stake_any {base rb : Nat} {T : List Tk} {tv pv : Value} {w : World} {i d : Nat} {nv : Value} {q : List Qn} (h : Sd base rb T tv pv w i d nv q) (x : ByteArray) :
    Calls Try.prog 42 #[.pointer (some ⟨rb, 0, none⟩), .string x] w fun e w' => e = .returned (.bool (isB T i x)) ∧ Sd base rb T tv pv w' (if isB T i x = true then i + 1 else i) d nv q ∧ Mv rb w nv q w' nv q := by
  have c5 : w.cell? ⟨rb, 5, none⟩ = some (.bool false) := h.row.cell (by omega)
  have hT6 : T.length ≤ 6000 := by obtain ⟨_, _, _, h, _⟩ := h.words; exact h
  by_cases hb : isB T i x = true
  · have hi := isB_lt hb
    rw [if_pos hb, hb]
    go_enter Try.func42, Try.ntmps42
    go_wp2_with fail
    refine (is_any h.wd x).mono ?_
    rw [hb]
    rintro e w1 ⟨rfl, hb1⟩
    have h1 := h.stays hb1
    have c1 : w1.cell? ⟨rb, 1, none⟩ = some (.int .i64 (i : Int)) := h1.row.cell (by omega)
    have f1 := h1.row.frozen 1
    obtain ⟨h2, m2⟩ := h1.set 1 (.int .i64 ((i : Int) + 1)) (i' := i + 1) (d' := d) (fun k hk => by
      match k, hk with
      | 0, _ => rfl
      | 1, _ => simp [spf]
      | 2, _ => rfl
      | 3, _ => rfl
      | 4, _ => rfl
      | 5, _ => rfl) hi h.hd (by have := h.hq; omega)
    go_wp2
    go_ret
    exact ⟨rfl, h2, (Mv.of_below hb1).trans m2⟩
  · have hbf : isB T i x = false := by simpa using hb
    rw [if_neg hb, hbf]
    go_enter Try.func42, Try.ntmps42
    go_wp2_with fail
    refine (is_any h.wd x).mono ?_
    rw [hbf]
    rintro e w1 ⟨rfl, hb1⟩
    go_wp2
    go_ret
    exact ⟨rfl, h.stays hb1, Mv.of_below hb1⟩
theorem stake_bad {base rb : Nat} {T : List Tk} {tv pv : Value} {w : World} {i : Nat} (h : Bd base rb T tv pv w i) (x : ByteArray) :
    Calls Try.prog 42 #[.pointer (some ⟨rb, 0, none⟩), .string x] w fun e w' => e = .returned (.bool false) ∧ Bd base rb T tv pv w' i ∧ Fz rb w w' := by
  obtain ⟨d, nv, pv, hr⟩ := h.row
  have c5 : w.cell? ⟨rb, 5, none⟩ = some (.bool true) := hr.cell (by omega)
  go_enter Try.func42, Try.ntmps42
  go_wp2
  go_ret
  exact ⟨rfl, h, Fz.of_below (Below.refl _ _)⟩

/-- want, of a reader that goes on. -/
theorem swant_any {base rb : Nat} {T : List Tk} {tv pv : Value} {w : World} {i d : Nat} {nv : Value} {q : List Qn} (h : Sd base rb T tv pv w i d nv q) (x : ByteArray) :
    Calls Try.prog 40 #[.pointer (some ⟨rb, 0, none⟩), .string x] w fun e w' => e = .returned (.tuple #[]) ∧ Mv rb w nv q w' nv q ∧ ((isB T i x = true ∧ Sd base rb T tv pv w' (i + 1) d nv q) ∨ (isB T i x = false ∧ Bd base rb T tv pv w' i)) := by
  have c5 : w.cell? ⟨rb, 5, none⟩ = some (.bool false) := h.row.cell (by omega)
  go_enter Try.func40, Try.ntmps40
  go_wp2_with fail
  refine (stake_any h x).mono ?_
  by_cases hb : isB T i x = true
  · rw [if_pos hb, hb]
    rintro e w1 ⟨rfl, h1, m1⟩
    go_wp2
    refine bodyPost_end (results_none rfl _ _ _) rfl ?_
    exact ⟨rfl, m1, .inl ⟨hb, h1⟩⟩
  · have hbf : isB T i x = false := by simpa using hb
    rw [if_neg hb, hbf]
    rintro e w1 ⟨rfl, h1, m1⟩
    have d5 : w1.cell? ⟨rb, 5, none⟩ = some (.bool false) := h1.row.cell (by omega)
    have f5 := h1.row.frozen 5
    have hB := h1.give
    go_wp2
    refine bodyPost_end (results_none rfl _ _ _) rfl ?_
    exact ⟨rfl, m1.fz (Fz.set 5 _), .inr ⟨hbf, hB⟩⟩
theorem swant_bad {base rb : Nat} {T : List Tk} {tv pv : Value} {w : World} {i : Nat} (h : Bd base rb T tv pv w i) (x : ByteArray) :
    Calls Try.prog 40 #[.pointer (some ⟨rb, 0, none⟩), .string x] w fun e w' => e = .returned (.tuple #[]) ∧ Bd base rb T tv pv w' i ∧ Fz rb w w' := by
  obtain ⟨d, nv, pv, hr⟩ := h.row
  have c5 : w.cell? ⟨rb, 5, none⟩ = some (.bool true) := hr.cell (by omega)
  go_enter Try.func40, Try.ntmps40
  go_wp2
  refine bodyPost_end (results_none rfl _ _ _) rfl ?_
  exact ⟨rfl, h, Fz.of_below (Below.refl _ _)⟩

/-- down, of a reader that goes on. -/
theorem sdown_any {base rb : Nat} {T : List Tk} {tv pv : Value} {w : World} {i d : Nat} {nv : Value} {q : List Qn} (h : Sd base rb T tv pv w i d nv q) (hd : d ≠ 30) :
    Calls Try.prog 60 #[.pointer (some ⟨rb, 0, none⟩)] w fun e w' => e = .returned (.bool true) ∧ Sd base rb T tv pv w' i (d + 1) nv q ∧ Mv rb w nv q w' nv q := by
  have c5 : w.cell? ⟨rb, 5, none⟩ = some (.bool false) := h.row.cell (by omega)
  have c2 : w.cell? ⟨rb, 2, none⟩ = some (.int .i64 (d : Int)) := h.row.cell (by omega)
  have f2 := h.row.frozen 2
  have hd30 := h.hd
  have hne : ¬ (d : Int) = 30 := by omega
  obtain ⟨h2, m2⟩ := h.set 2 (.int .i64 ((d : Int) + 1)) (i' := i) (d' := d + 1) (fun k hk => by
      match k, hk with
      | 0, _ => rfl
      | 1, _ => rfl
      | 2, _ => simp [spf]
      | 3, _ => rfl
      | 4, _ => rfl
      | 5, _ => rfl) h.hi (by omega) h.hq
  go_enter Try.func60, Try.ntmps60
  go_wp2
  go_ret
  exact ⟨rfl, h2, m2⟩
theorem sdown_deep {base rb : Nat} {T : List Tk} {tv pv : Value} {w : World} {i : Nat} {nv : Value} {q : List Qn} (h : Sd base rb T tv pv w i 30 nv q) :
    Calls Try.prog 60 #[.pointer (some ⟨rb, 0, none⟩)] w fun e w' => e = .returned (.bool false) ∧ Bd base rb T tv pv w' i ∧ Fz rb w w' := by
  have c5 : w.cell? ⟨rb, 5, none⟩ = some (.bool false) := h.row.cell (by omega)
  have c2 : w.cell? ⟨rb, 2, none⟩ = some (.int .i64 30) := h.row.cell (by omega)
  have f5 := h.row.frozen 5
  have hB := h.give
  go_enter Try.func60, Try.ntmps60
  go_wp2
  go_ret
  exact ⟨rfl, hB, Fz.set 5 _⟩
theorem sdown_bad {base rb : Nat} {T : List Tk} {tv pv : Value} {w : World} {i : Nat} (h : Bd base rb T tv pv w i) :
    Calls Try.prog 60 #[.pointer (some ⟨rb, 0, none⟩)] w fun e w' => e = .returned (.bool false) ∧ Bd base rb T tv pv w' i ∧ Fz rb w w' := by
  obtain ⟨d, nv, pv, hr⟩ := h.row
  have c5 : w.cell? ⟨rb, 5, none⟩ = some (.bool true) := hr.cell (by omega)
  have f5 := hr.frozen 5
  have hB := h.again
  go_enter Try.func60, Try.ntmps60
  go_wp2
  go_ret
  exact ⟨rfl, hB, Fz.set 5 _⟩

theorem Sd.setNew {base rb : Nat} {T : List Tk} {tv pv : Value} {w x : World} {i d i0 d0 : Nat} {nv : Value} {q : List Qn} (h0 : Sd base rb T tv pv w i0 d0 nv q) (h : Sd base rb T tv pv x i d nv q) {a : Addr} (ha : w.heap.size ≤ a.block) (u : Value) : Sd base rb T tv pv (x.setCell a u) i d nv q := by
  have hz : (x.setCell a u).heap.size = x.heap.size := by simp [World.setCell]
  have hr := h0.row.lt
  have hk : ∀ g, g < w.heap.size → (x.setCell a u).heap[g]? = x.heap[g]? := fun g hg => Below.heap_setCell _ _ _ _ (by omega)
  refine ⟨h.row.of_block (hk _ hr), h.words.keep (fun g hg _ => hk g (by have := h0.base_le; omega)) (by omega), h.own.keep (fun g hg _ => hk g ?_), h.rb0, h.nvb, h.kib, h.hi, h.hd, h.hq⟩
  rcases hg with hg | ⟨k, hk, hg⟩
  · exact (own_lt h0.own.row hg).2
  · exact (own_lt (h0.own.lists k hk) hg).2
theorem Bd.setNew {base rb : Nat} {T : List Tk} {tv pv : Value} {x : World} {i : Nat} (h : Bd base rb T tv pv x i) {a : Addr} (ha : base ≤ a.block) (hn : a.block ≠ rb) (u : Value) : Bd base rb T tv pv (x.setCell a u) i := by
  have hz : (x.setCell a u).heap.size = x.heap.size := by simp [World.setCell]
  have hk : ∀ g, g ≠ a.block → (x.setCell a u).heap[g]? = x.heap[g]? := fun g hg => Below.heap_setCell _ _ _ _ hg
  obtain ⟨d, nv, pv, hr⟩ := h.row
  exact ⟨cell_same (hk _ fun e => hn e.symm) h.c4, ⟨d, nv, pv, hr.of_block (hk _ fun e => hn e.symm)⟩, h.words.keep (fun g hg _ => hk g (by omega)) (by omega), h.rb0, h.hi⟩
theorem Fz.setNew {rb : Nat} {w x : World} (h : Fz rb w x) {a : Addr} (ha : w.heap.size ≤ a.block) (u : Value) : Fz rb w (x.setCell a u) := by
  have hz : (x.setCell a u).heap.size = x.heap.size := by simp [World.setCell]
  exact ⟨h.os, h.tape, h.output, by rw [hz]; exact h.size, fun g hg hr => by rw [Below.heap_setCell _ _ _ _ (by omega)]; exact h.block g hg hr⟩

/-- What kind leaves. -/
def KRet (base rb : Nat) (T : List Tk) (tv pv : Value) (w : World) (nv : Value) (q : List Qn) (i d : Nat) (k : Int) (t : Tk) (e : Ending) (w' : World) : Prop := Mv rb w nv q w' nv q ∧ ((t.k = k ∧ e = .returned (.agg #[.int .i64 t.k, .string t.s, .int .i64 t.n, .int .i64 t.p]) ∧ Sd base rb T tv pv w' (i + 1) d nv q) ∨ (¬ t.k = k ∧ e = .returned (.agg #[.int .i64 0, .string ⟨#[]⟩, .int .i64 0, .int .i64 0]) ∧ Bd base rb T tv pv w' i))

set_option maxHeartbeats 1000000 in
theorem skind_any {base rb : Nat} {T : List Tk} {tv pv : Value} {w : World} {i d : Nat} {nv : Value} {q : List Qn} (h : Sd base rb T tv pv w i d nv q) (k : Int) (hk : k ≠ 0) :
    Calls Try.prog 41 #[.pointer (some ⟨rb, 0, none⟩), .int .i64 k] w (KRet base rb T tv pv w nv q i d k (tkAt T i)) := by
  have hT6 : T.length ≤ 6000 := by obtain ⟨_, _, _, h, _⟩ := h.words; exact h
  have bA : Below w.heap.size w (w.alloc (Obj.cells #[.int .i64 0, .string ⟨#[]⟩, .int .i64 0, .int .i64 0] 59)) := (Below.refl _ _).alloc (Nat.le_refl _) _
  have hA := h.stays bA
  have hrb := h.row.lt
  have hbl := h.base_le
  have r0 : (w.alloc (Obj.cells #[.int .i64 0, .string ⟨#[]⟩, .int .i64 0, .int .i64 0] 59)).cell? ⟨w.heap.size, 0, none⟩ = some (.int .i64 0) := by simp [go_sem]
  have r1 : (w.alloc (Obj.cells #[.int .i64 0, .string ⟨#[]⟩, .int .i64 0, .int .i64 0] 59)).cell? ⟨w.heap.size, 1, none⟩ = some (.string ⟨#[]⟩) := by simp [go_sem]
  have r2 : (w.alloc (Obj.cells #[.int .i64 0, .string ⟨#[]⟩, .int .i64 0, .int .i64 0] 59)).cell? ⟨w.heap.size, 2, none⟩ = some (.int .i64 0) := by simp [go_sem]
  have r3 : (w.alloc (Obj.cells #[.int .i64 0, .string ⟨#[]⟩, .int .i64 0, .int .i64 0] 59)).cell? ⟨w.heap.size, 3, none⟩ = some (.int .i64 0) := by simp [go_sem]
  have rf : ∀ j, (w.alloc (Obj.cells #[.int .i64 0, .string ⟨#[]⟩, .int .i64 0, .int .i64 0] 59)).frozen? ⟨w.heap.size, j, none⟩ = false := fun j => by simp [go_sem]
  have ht := tok_any hA.wd
  rcases hk1 : tkAt T i with ⟨tk, ts, tn, tp⟩
  rw [hk1] at ht
  dsimp only at ht ⊢
  have HT : Hid (tkAt T i = ⟨tk, ts, tn, tp⟩) := hk1
  clear hk1
  go_enter Try.func41, Try.ntmps41
  go_wp2_with fail
  refine ht.mono ?_
  rintro e w2 ⟨rfl, hb⟩
  have hb3 : Below w2.heap.size w2 (w2.alloc (Obj.cells #[.int .i64 tk, .string ts, .int .i64 tn, .int .i64 tp] 59)) := (Below.refl _ _).alloc (Nat.le_refl _) _
  have b2 := hb.trans (hb3.mono hb.size)
  have s0 := cell_stays b2 r0
  have s1 := cell_stays b2 r1
  have s2 := cell_stays b2 r2
  have s3 := cell_stays b2 r3
  have sf : ∀ j, (w2.alloc (Obj.cells #[.int .i64 tk, .string ts, .int .i64 tn, .int .i64 tp] 59)).frozen? ⟨w.heap.size, j, none⟩ = false := fun j => by rw [b2.frozen (by simp)]; exact rf j
  have y0 : (w2.alloc (Obj.cells #[.int .i64 tk, .string ts, .int .i64 tn, .int .i64 tp] 59)).cell? ⟨w2.heap.size, 0, none⟩ = some (.int .i64 tk) := by simp [go_sem]
  have y1 : (w2.alloc (Obj.cells #[.int .i64 tk, .string ts, .int .i64 tn, .int .i64 tp] 59)).cell? ⟨w2.heap.size, 1, none⟩ = some (.string ts) := by simp [go_sem]
  have y2 : (w2.alloc (Obj.cells #[.int .i64 tk, .string ts, .int .i64 tn, .int .i64 tp] 59)).cell? ⟨w2.heap.size, 2, none⟩ = some (.int .i64 tn) := by simp [go_sem]
  have y3 : (w2.alloc (Obj.cells #[.int .i64 tk, .string ts, .int .i64 tn, .int .i64 tp] 59)).cell? ⟨w2.heap.size, 3, none⟩ = some (.int .i64 tp) := by simp [go_sem]
  have h2 := hA.stays b2
  have hz1 := hb.size
  simp at hz1
  have hne : rb ≠ w2.heap.size := by omega
  have hne2 : rb ≠ w.heap.size := by omega
  have hne3 : w.heap.size ≠ rb := by omega
  have bw : Below w.heap.size w (w2.alloc (Obj.cells #[.int .i64 tk, .string ts, .int .i64 tn, .int .i64 tp] 59)) := bA.trans (b2.mono bA.size)
  have c5 : (w2.alloc (Obj.cells #[.int .i64 tk, .string ts, .int .i64 tn, .int .i64 tp] 59)).cell? ⟨rb, 5, none⟩ = some (.bool false) := h2.row.cell (by omega)
  have f5 := h2.row.frozen 5
  have c1 : (w2.alloc (Obj.cells #[.int .i64 tk, .string ts, .int .i64 tn, .int .i64 tp] 59)).cell? ⟨rb, 1, none⟩ = some (.int .i64 (i : Int)) := h2.row.cell (by omega)
  have f1 := h2.row.frozen 1
  have hM2 := Mv.of_below (rb := rb) (nv := nv) (q := q) bw
  clear r0 r1 r2 r3 rf b2 hA hb hb3 ht
  by_cases he : tk = k
  · have hi := kind_lt (T := T) (i := i) (k := k) (by rw [HT.out]; exact he) hk
    obtain ⟨h3, m3⟩ := h2.set 1 (.int .i64 ((i : Int) + 1)) (i' := i + 1) (d' := d) (fun k hk => by
      match k, hk with
      | 0, _ => rfl
      | 1, _ => simp [spf]
      | 2, _ => rfl
      | 3, _ => rfl
      | 4, _ => rfl
      | 5, _ => rfl) hi h.hd (by have := h.hq; omega)
    have hM3 := hM2.trans m3
    subst he
    go_wp2
    generalize (w2.alloc (Obj.cells #[.int .i64 tk, .string ts, .int .i64 tn, .int .i64 tp] 59)) = w5 at *
    refine bodyPost_ret (v := .agg #[.int .i64 tk, .string ts, .int .i64 tn, .int .i64 tp]) (by simp [results, Try.results41, go_sem, s0, s1, s2, s3]) rfl ⟨?_, .inl ⟨rfl, rfl, ?_⟩⟩
    · exact (((hM3.setNew (Nat.le_refl _) _).setNew (Nat.le_refl _) _).setNew (Nat.le_refl _) _).setNew (Nat.le_refl _) _
    · exact h.setNew (h.setNew (h.setNew (h.setNew h3 (Nat.le_refl _) _) (Nat.le_refl _) _) (Nat.le_refl _) _) (Nat.le_refl _) _
  · have hB := h2.give
    go_wp2
    generalize (w2.alloc (Obj.cells #[.int .i64 tk, .string ts, .int .i64 tn, .int .i64 tp] 59)) = w5 at *
    refine bodyPost_ret (v := .agg #[.int .i64 0, .string ⟨#[]⟩, .int .i64 0, .int .i64 0]) (by simp [results, Try.results41, go_sem, s0, s1, s2, s3]) rfl ⟨?_, .inr ⟨he, rfl, ?_⟩⟩
    · exact ((((hM2.fz (Fz.set 5 _)).setNew (Nat.le_refl _) _).setNew (Nat.le_refl _) _).setNew (Nat.le_refl _) _).setNew (Nat.le_refl _) _
    · exact (((hB.setNew hbl hne3 _).setNew hbl hne3 _).setNew hbl hne3 _).setNew hbl hne3 _

set_option maxHeartbeats 1000000 in
theorem skind_bad {base rb : Nat} {T : List Tk} {tv pv : Value} {w : World} {i : Nat} (h : Bd base rb T tv pv w i) (k : Int) :
    Calls Try.prog 41 #[.pointer (some ⟨rb, 0, none⟩), .int .i64 k] w fun e w' => e = .returned (.agg #[.int .i64 0, .string ⟨#[]⟩, .int .i64 0, .int .i64 0]) ∧ Bd base rb T tv pv w' i ∧ Fz rb w w' := by
  have bA : Below w.heap.size w (w.alloc (Obj.cells #[.int .i64 0, .string ⟨#[]⟩, .int .i64 0, .int .i64 0] 59)) := (Below.refl _ _).alloc (Nat.le_refl _) _
  have hA := h.stays bA
  have hrb := h.lt
  have hb0 := h.rb0
  have r0 : (w.alloc (Obj.cells #[.int .i64 0, .string ⟨#[]⟩, .int .i64 0, .int .i64 0] 59)).cell? ⟨w.heap.size, 0, none⟩ = some (.int .i64 0) := by simp [go_sem]
  have r1 : (w.alloc (Obj.cells #[.int .i64 0, .string ⟨#[]⟩, .int .i64 0, .int .i64 0] 59)).cell? ⟨w.heap.size, 1, none⟩ = some (.string ⟨#[]⟩) := by simp [go_sem]
  have r2 : (w.alloc (Obj.cells #[.int .i64 0, .string ⟨#[]⟩, .int .i64 0, .int .i64 0] 59)).cell? ⟨w.heap.size, 2, none⟩ = some (.int .i64 0) := by simp [go_sem]
  have r3 : (w.alloc (Obj.cells #[.int .i64 0, .string ⟨#[]⟩, .int .i64 0, .int .i64 0] 59)).cell? ⟨w.heap.size, 3, none⟩ = some (.int .i64 0) := by simp [go_sem]
  have rf : ∀ j, (w.alloc (Obj.cells #[.int .i64 0, .string ⟨#[]⟩, .int .i64 0, .int .i64 0] 59)).frozen? ⟨w.heap.size, j, none⟩ = false := fun j => by simp [go_sem]
  go_enter Try.func41, Try.ntmps41
  go_wp2_with fail
  refine (tok_any hA.wd).mono ?_
  generalize tkAt T i = t
  rintro e w2 ⟨rfl, hb⟩
  have hb3 : Below w2.heap.size w2 (w2.alloc (Obj.cells #[.int .i64 t.k, .string t.s, .int .i64 t.n, .int .i64 t.p] 59)) := (Below.refl _ _).alloc (Nat.le_refl _) _
  have b2 := hb.trans (hb3.mono hb.size)
  have s0 := cell_stays b2 r0
  have s1 := cell_stays b2 r1
  have s2 := cell_stays b2 r2
  have s3 := cell_stays b2 r3
  have sf : ∀ j, (w2.alloc (Obj.cells #[.int .i64 t.k, .string t.s, .int .i64 t.n, .int .i64 t.p] 59)).frozen? ⟨w.heap.size, j, none⟩ = false := fun j => by rw [b2.frozen (by simp)]; exact rf j
  have h2 := hA.stays b2
  have hz1 := hb.size
  simp at hz1
  have hne : rb ≠ w2.heap.size := by omega
  have hne3 : w.heap.size ≠ rb := by omega
  have bw : Below w.heap.size w (w2.alloc (Obj.cells #[.int .i64 t.k, .string t.s, .int .i64 t.n, .int .i64 t.p] 59)) := bA.trans (b2.mono bA.size)
  obtain ⟨d, nv, pv, hr⟩ := id h2.row
  have c5 : (w2.alloc (Obj.cells #[.int .i64 t.k, .string t.s, .int .i64 t.n, .int .i64 t.p] 59)).cell? ⟨rb, 5, none⟩ = some (.bool true) := hr.cell (by omega)
  have f5 := hr.frozen 5
  have hB := h2.again
  have hF := (Fz.of_below (rb := rb) bw).trans (Fz.set 5 (.bool true))
  clear r0 r1 r2 r3 rf b2 hA hb hb3
  go_wp2
  generalize (w2.alloc (Obj.cells #[.int .i64 t.k, .string t.s, .int .i64 t.n, .int .i64 t.p] 59)) = w5 at *
  refine bodyPost_ret (v := .agg #[.int .i64 0, .string ⟨#[]⟩, .int .i64 0, .int .i64 0]) (by simp [results, Try.results41, go_sem, s0, s1, s2, s3]) rfl ⟨rfl, ?_, ?_⟩
  · exact (((hB.setNew (by show base ≤ w.heap.size; omega) hne3 _).setNew (by show base ≤ w.heap.size; omega) hne3 _).setNew (by show base ≤ w.heap.size; omega) hne3 _).setNew (by show base ≤ w.heap.size; omega) hne3 _
  · exact (((hF.setNew (Nat.le_refl _) _).setNew (Nat.le_refl _) _).setNew (Nat.le_refl _) _).setNew (Nat.le_refl _) _

theorem snode_bad {base rb : Nat} {T : List Tk} {tv pv : Value} {w : World} {i : Nat} (h : Bd base rb T tv pv w i) (k : Int) (s : ByteArray) (n : Int) (a : Option Addr) (m cap : Nat) :
    Calls Try.prog 62 #[.pointer (some ⟨rb, 0, none⟩), .agg #[.int .i64 k, .string s, .int .i64 n, .slice a m cap]] w fun e w' => e = .returned (.int .i64 0) ∧ Bd base rb T tv pv w' i ∧ Fz rb w w' := by
  have bA : Below w.heap.size w (w.alloc (Obj.cells #[.int .i64 k, .string s, .int .i64 n, .slice a m cap] 33)) := (Below.refl _ _).alloc (Nat.le_refl _) _
  have hA := h.stays bA
  obtain ⟨d, nv, pv, hr⟩ := id hA.row
  have c5 : (w.alloc (Obj.cells #[.int .i64 k, .string s, .int .i64 n, .slice a m cap] 33)).cell? ⟨rb, 5, none⟩ = some (.bool true) := hr.cell (by omega)
  have hrb := h.lt
  go_enter Try.func62, Try.ntmps62
  go_wp2
  go_ret
  exact ⟨rfl, hA, Fz.of_below bA⟩

set_option maxHeartbeats 2000000 in
theorem snode_any {base rb : Nat} {T : List Tk} {tv pv : Value} {w : World} {i d : Nat} {nv : Value} {q : List Qn} (h : Sd base rb T tv pv w i d nv q) (c : Nd) (a : Option Addr) (cap : Nat)
    (hl : w.ownsRow base 3 1 (.slice a c.kids.length cap) c.kids.length (icells c.kids))
    (hlg : ∀ g, (Value.slice a c.kids.length cap).ownBlock = some g → g ≠ rb ∧ nv.ownBlock ≠ some g ∧ ∀ j, j < q.length → (qnAt q j).2.ownBlock ≠ some g) (hroom : q.length + 1 ≤ i) :
    Calls Try.prog 62 #[.pointer (some ⟨rb, 0, none⟩), .agg #[.int .i64 c.k, .string c.s, .int .i64 c.n, .slice a c.kids.length cap]] w fun e w' => e = .returned (.int .i64 (q.length : Int)) ∧ ∃ nv', Sd base rb T tv pv w' i d nv' (q ++ [(c, .slice a c.kids.length cap)]) ∧ Fr rb w nv w' nv' := by
  obtain ⟨i0, hI, hz0, hz1, hz2⟩ := info_parts infoNd
  have hrb := h.row.lt
  have hbl := h.base_le
  have hT6 : T.length ≤ 6000 := by obtain ⟨_, _, _, h, _⟩ := h.words; exact h
  have hi := h.hi
  obtain ⟨na, nc, hnv⟩ := own_slice h.own.row
  have bA : Below w.heap.size w (w.alloc (Obj.cells #[.int .i64 c.k, .string c.s, .int .i64 c.n, .slice a c.kids.length cap] 33)) := (Below.refl _ _).alloc (Nat.le_refl _) _
  have hA := h.stays bA
  have c4 : (w.alloc (Obj.cells #[.int .i64 c.k, .string c.s, .int .i64 c.n, .slice a c.kids.length cap] 33)).cell? ⟨rb, 3, none⟩ = some nv := hA.row.cell (by omega)
  have c5 : (w.alloc (Obj.cells #[.int .i64 c.k, .string c.s, .int .i64 c.n, .slice a c.kids.length cap] 33)).cell? ⟨rb, 5, none⟩ = some (.bool false) := hA.row.cell (by omega)
  have f4 := hA.row.frozen 3
  have y0 : (w.alloc (Obj.cells #[.int .i64 c.k, .string c.s, .int .i64 c.n, .slice a c.kids.length cap] 33)).cell? ⟨w.heap.size, 0, none⟩ = some (.int .i64 c.k) := by simp [go_sem]
  have y1 : (w.alloc (Obj.cells #[.int .i64 c.k, .string c.s, .int .i64 c.n, .slice a c.kids.length cap] 33)).cell? ⟨w.heap.size, 1, none⟩ = some (.string c.s) := by simp [go_sem]
  have y2 : (w.alloc (Obj.cells #[.int .i64 c.k, .string c.s, .int .i64 c.n, .slice a c.kids.length cap] 33)).cell? ⟨w.heap.size, 2, none⟩ = some (.int .i64 c.n) := by simp [go_sem]
  have y3 : (w.alloc (Obj.cells #[.int .i64 c.k, .string c.s, .int .i64 c.n, .slice a c.kids.length cap] 33)).cell? ⟨w.heap.size, 3, none⟩ = some (.slice a c.kids.length cap) := by simp [go_sem]
  subst hnv
  go_enter Try.func62, Try.ntmps62
  go_wp2_with fail
  have hzA : (w.alloc (Obj.cells #[.int .i64 c.k, .string c.s, .int .i64 c.n, .slice a c.kids.length cap] 33)).heap.size ≤ w.heap.size + 1 := by simp
  have hzB : w.heap.size + 1 ≤ (w.alloc (Obj.cells #[.int .i64 c.k, .string c.s, .int .i64 c.n, .slice a c.kids.length cap] 33)).heap.size := by simp
  generalize (w.alloc (Obj.cells #[.int .i64 c.k, .string c.s, .int .i64 c.n, .slice a c.kids.length cap] 33)) = wo at *
  have S0 : ∀ x, Below wo.heap.size wo x → x.cell? ⟨rb, 3, none⟩ = some (.slice na q.length nc) ∧ x.cell? ⟨w.heap.size, 0, none⟩ = some (.int .i64 c.k) ∧ x.cell? ⟨w.heap.size, 1, none⟩ = some (.string c.s) ∧ x.cell? ⟨w.heap.size, 2, none⟩ = some (.int .i64 c.n) ∧ x.cell? ⟨w.heap.size, 3, none⟩ = some (.slice a c.kids.length cap) := fun x hx => ⟨cell_stays hx c4, cell_stays hx y0, cell_stays hx y1, cell_stays hx y2, cell_stays hx y3⟩
  have bD := (Below.refl wo.heap.size wo).drew
  refine region_last (fun x => x.cell? ⟨rb, 3, none⟩ = some (.slice na q.length nc) ∧ x.cell? ⟨w.heap.size, 0, none⟩ = some (.int .i64 c.k) ∧ x.cell? ⟨w.heap.size, 1, none⟩ = some (.string c.s) ∧ x.cell? ⟨w.heap.size, 2, none⟩ = some (.int .i64 c.n) ∧ x.cell? ⟨w.heap.size, 3, none⟩ = some (.slice a c.kids.length cap)) (by kernel_rfl) (by kernel_rfl) (by kernel_rfl) (S0 _ bD) (fun hHeld => ?_)
  simp only [List.dropLast, List.length_cons, List.length_nil, Nat.reduceAdd]
  refine takeL (i := 0) (v := ?_) rfl (by kernel_rfl) (by kernel_rfl) (by kernel_rfl) (fun _ _ _ h => h) rfl (by assumption) ?_ ?_
  rotate_left
  · (intro wS hSw; (try dsimp only at hSw); go_simp; try with_reducible rfl)
  (try simp only [Act.put, List.setIfInBounds_toArray, List.set_cons_zero, List.set_cons_succ])
  refine takeL (i := 1) (v := ?_) rfl (by kernel_rfl) (by kernel_rfl) (by kernel_rfl) (fun _ _ _ h => h) rfl (by assumption) ?_ ?_
  rotate_left
  · (intro wS hSw; (try dsimp only at hSw); go_simp; try with_reducible rfl)
  (try simp only [Act.put, List.setIfInBounds_toArray, List.set_cons_zero, List.set_cons_succ])
  refine takeL (i := 2) (v := ?_) rfl (by kernel_rfl) (by kernel_rfl) (by kernel_rfl) (fun _ _ _ h => h) rfl (by assumption) ?_ ?_
  rotate_left
  · (intro wS hSw; (try dsimp only at hSw); go_simp; try with_reducible rfl)
  (try simp only [Act.put, List.setIfInBounds_toArray, List.set_cons_zero, List.set_cons_succ])
  refine takeL (i := 3) (v := ?_) rfl (by kernel_rfl) (by kernel_rfl) (by kernel_rfl) (fun _ _ _ h => h) rfl (by assumption) ?_ ?_
  rotate_left
  · (intro wS hSw; (try dsimp only at hSw); go_simp; try with_reducible rfl)
  (try simp only [Act.put, List.setIfInBounds_toArray, List.set_cons_zero, List.set_cons_succ])
  refine takeL (i := 4) (v := ?_) rfl (by kernel_rfl) (by kernel_rfl) (by kernel_rfl) (fun _ _ _ h => h) rfl (by assumption) ?_ ?_
  rotate_left
  · (intro wS hSw; (try dsimp only at hSw); go_simp; try with_reducible rfl)
  (try simp only [Act.put, List.setIfInBounds_toArray, List.set_cons_zero, List.set_cons_succ])
  refine takeL (i := 5) (v := ?_) rfl (by kernel_rfl) (by kernel_rfl) (by kernel_rfl) (fun _ _ _ h => h) rfl (by assumption) ?_ ?_
  rotate_left
  · (intro wS hSw; (try dsimp only at hSw); go_simp; try with_reducible rfl)
  (try simp only [Act.put, List.setIfInBounds_toArray, List.set_cons_zero, List.set_cons_succ])
  refine takeL (i := 6) (v := ?_) rfl (by kernel_rfl) (by kernel_rfl) (by kernel_rfl) (fun _ _ _ h => h) rfl (by assumption) ?_ ?_
  rotate_left
  · (intro wS hSw; (try dsimp only at hSw); go_simp; try with_reducible rfl)
  (try simp only [Act.put, List.setIfInBounds_toArray, List.set_cons_zero, List.set_cons_succ])
  refine stepL (i := 7) rfl (by kernel_rfl) (fun K hK => ?_)
  rw [if_pos (by rfl)]
  go_simp
  have bB : Below wo.heap.size wo (wo.alloc (Obj.cells #[.int .i64 c.k, .string c.s, .int .i64 c.n, .slice a c.kids.length cap] 33)).drew := ((Below.refl wo.heap.size wo).alloc (Nat.le_refl _) _).drew
  refine hK.out _ _ (S0 _ bB) (fun hHeld2 => ?_)
  clear hK K hHeld
  (try simp only [Act.put, List.setIfInBounds_toArray, List.set_cons_zero, List.set_cons_succ])
  refine stepL (i := 8) rfl (by kernel_rfl) (fun K hK => ?_)
  refine step_append_lies _ (by rfl) _ _ _ (by rfl) base 33 i0 _ 4 56 Try.underlying24 hI hz0 hz1 hz2 rfl (by omega) (.slice na q.length nc) q.length (ncells q) (by rfl) (own_keep hA.own.row fun g hg hgl => bB.block g hgl) ⟨wo.heap.size, 0, none⟩ 1 1 [.int .i64 c.k, .string c.s, .int .i64 c.n, .slice a c.kids.length cap] (by rfl) (by rfl) (World.news_of_block (heap_alloc_new wo _)) (by simp [Value.oneCell']) (by omega) (by unfold maxLen; omega) (by omega) (by show _ ≤ (wo.alloc _).heap.size; simp; omega) (wo.heap.size + 1) (by show (wo.alloc _).heap.size = _; simp) ?_
  intro g6 cap6 w6 hown6 hgrow6 hat6 hlt6
  have hnvl : ∀ g, (Value.slice na q.length nc).ownBlock = some g → base ≤ g ∧ g < w.heap.size := fun g hg => own_lt h.own.row hg
  have kb : ∀ g, g < wo.heap.size → (Value.slice na q.length nc).ownBlock ≠ some g → w6.heap[g]? = wo.heap[g]? := fun g hg hne => (hgrow6.block g (by show g < (wo.alloc _).heap.size; simp; omega) (fun e => hne e.symm)).trans (bB.block g hg)
  have z6 : wo.heap.size ≤ w6.heap.size := by have : (wo.alloc _).heap.size ≤ w6.heap.size := hgrow6.size; simp at this; omega
  have hoth : ∀ {p : Addr} {u : Value}, wo.cell? p = some u → (Value.slice na q.length nc).ownBlock ≠ some p.block → w6.cell? p = some u := fun {p} {u} hca hne => by
    rw [World.cell?_of_block (kb p.block (cell_lt hca) hne)]; exact hca
  have hnw : ∀ o, (Value.slice na q.length nc).ownBlock ≠ some (Addr.block ⟨w.heap.size, o, none⟩) := fun o e => by have := (hnvl _ e).2; simp at this
  have SS : w6.cell? ⟨rb, 3, none⟩ = some (.slice na q.length nc) ∧ w6.cell? ⟨w.heap.size, 0, none⟩ = some (.int .i64 c.k) ∧ w6.cell? ⟨w.heap.size, 1, none⟩ = some (.string c.s) ∧ w6.cell? ⟨w.heap.size, 2, none⟩ = some (.int .i64 c.n) ∧ w6.cell? ⟨w.heap.size, 3, none⟩ = some (.slice a c.kids.length cap) :=
    ⟨hoth c4 h.nvb, hoth y0 (hnw 0), hoth y1 (hnw 1), hoth y2 (hnw 2), hoth y3 (hnw 3)⟩
  have f6 : w6.frozen? ⟨rb, 3, none⟩ = false := by rw [World.frozen?_of_block (kb rb (cell_lt c4) h.nvb)]; exact f4
  have c6 := SS.1
  refine hK.out _ _ SS (fun hHeld3 => ?_)
  clear hK K hHeld2
  (try simp only [Act.put, List.setIfInBounds_toArray, List.set_cons_zero, List.set_cons_succ])
  refine takeL (i := 9) (v := ?_) rfl (by kernel_rfl) (by kernel_rfl) (by kernel_rfl) (fun _ _ _ h => h) rfl (by assumption) ?_ ?_
  rotate_left
  · (intro wS hSw; (try dsimp only at hSw); go_simp; try with_reducible rfl)
  (try simp only [Act.put, List.setIfInBounds_toArray, List.set_cons_zero, List.set_cons_succ])
  refine takeL (i := 10) (v := ?_) rfl (by kernel_rfl) (by kernel_rfl) (by kernel_rfl) (fun _ _ _ h => h) rfl (by assumption) ?_ ?_
  rotate_left
  · (intro wS hSw; (try dsimp only at hSw); go_simp; try with_reducible rfl)
  (try simp only [Act.put, List.setIfInBounds_toArray, List.set_cons_zero, List.set_cons_succ])
  refine takeL (i := 11) (v := ?_) rfl (by kernel_rfl) (by kernel_rfl) (by kernel_rfl) (fun _ _ _ h => h) rfl (by assumption) ?_ ?_
  rotate_left
  · (intro wS hSw; (try dsimp only at hSw); go_simp; try with_reducible rfl)
  (try simp only [Act.put, List.setIfInBounds_toArray, List.set_cons_zero, List.set_cons_succ])
  refine wpAnyH_done (by kernel_rfl) ?_ _
  refine lastL (n := 12) rfl rfl ?_
  clear hHeld3 S0 SS
  go_simp
  have hnb : (Value.slice (some ⟨g6, 0, none⟩) (q.length + 1) cap6).ownBlock ≠ some rb := fun e => by
    have e' : some g6 = some rb := e
    injection e' with e'
    subst e'
    rcases hat6 with e | e
    · exact h.nvb e
    · omega
  have hO6 : OwnN base w6 (.slice (some ⟨g6, 0, none⟩) (q.length + 1) cap6) (q ++ [(c, .slice a c.kids.length cap)]) :=
    hA.own.snoc (own_keep hl fun g hg hgl => bA.block g hgl) (fun g hg => (hlg g hg).2) hown6 kb (fun g hg => by
      have hg' : some g6 = some g := hg
      injection hg' with hg'
      subst hg'
      rcases hat6 with e | e
      · exact .inl e
      · exact .inr (by omega))
  have hk7 : ∀ g, g ≠ rb → (w6.setCell ⟨rb, 3, none⟩ (.slice (some ⟨g6, 0, none⟩) (q.length + 1) cap6)).heap[g]? = w6.heap[g]? := fun g hg => Below.heap_setCell _ _ _ _ hg
  have hz7 : (w6.setCell ⟨rb, 3, none⟩ (.slice (some ⟨g6, 0, none⟩) (q.length + 1) cap6)).heap.size = w6.heap.size := by simp [World.setCell]
  have hkib : ∀ k, k < (q ++ [((c, .slice a c.kids.length cap) : Qn)]).length → (qnAt (q ++ [(c, .slice a c.kids.length cap)]) k).2.ownBlock ≠ some rb := fun k hk => by
    by_cases hkl : k < q.length
    · rw [qnAt_snoc_lt _ _ hkl]; exact h.kib k hkl
    · have : k = q.length := by simp at hk; omega
      subst this
      rw [qnAt_snoc_eq]
      exact fun e => (hlg rb e).1 rfl
  have h7 : Sd base rb T tv pv (w6.setCell ⟨rb, 3, none⟩ (.slice (some ⟨g6, 0, none⟩) (q.length + 1) cap6)) i d (.slice (some ⟨g6, 0, none⟩) (q.length + 1) cap6) (q ++ [(c, .slice a c.kids.length cap)]) := by
    refine ⟨((hA.row.of_block (kb rb (by omega) h.nvb)).set 3 _).congr (fun k hk => ?_), hA.words.keep (fun g hg hgl => ?_) (by rw [hz7]; exact z6), hO6.keep (fun g hg _ => hk7 g ?_), h.rb0, hnb, hkib, hi, h.hd, by simp; omega⟩
    · match k, hk with
      | 0, _ => rfl
      | 1, _ => rfl
      | 2, _ => rfl
      | 3, _ => rfl
      | 4, _ => rfl
      | 5, _ => rfl
    · rw [hk7 g (by have := h.rb0; omega), kb g hgl (fun e => by have := (hnvl g e).1; omega)]
    · rcases hg with hg | ⟨k, hk, hg⟩
      · exact fun e => hnb (by rw [← e]; exact hg)
      · exact fun e => hkib k hk (by rw [← e]; exact hg)
  have hF : Fr rb w (.slice na q.length nc) (w6.setCell ⟨rb, 3, none⟩ (.slice (some ⟨g6, 0, none⟩) (q.length + 1) cap6)) (.slice (some ⟨g6, 0, none⟩) (q.length + 1) cap6) := by
    refine ⟨?_, ?_, ?_, by rw [hz7]; omega, fun g hg hr hn => ?_, fun g hg => ?_⟩
    · exact hgrow6.os.trans bA.os
    · exact hgrow6.tape.trans bA.tape
    · exact hgrow6.output.trans bA.output
    · rw [hk7 g hr, kb g (by omega) hn, bA.block g hg]
    · have hg' : some g6 = some g := hg
      injection hg' with hg'
      subst hg'
      rcases hat6 with e | e
      · exact .inl e
      · exact .inr (by omega)
  clear hgrow6 hown6 hO6
  have d4 : (w6.setCell ⟨rb, 3, none⟩ (.slice (some ⟨g6, 0, none⟩) (q.length + 1) cap6)).cell? ⟨rb, 3, none⟩ = some (.slice (some ⟨g6, 0, none⟩) (q.length + 1) cap6) := h7.row.cell (by omega)
  have hq1 : IntKind.i64.wrap (((q.length + 1 : Nat) : Int) - 1) = (q.length : Int) := by rw [IntKind.wrap_i64]; omega
  generalize (w6.setCell ⟨rb, 3, none⟩ (.slice (some ⟨g6, 0, none⟩) (q.length + 1) cap6)) = w7 at *
  go_wp2
  go_ret
  exact ⟨by simp, _, h7, hF⟩

end Go.Proofs.Ytkdlgglikhbnkac
