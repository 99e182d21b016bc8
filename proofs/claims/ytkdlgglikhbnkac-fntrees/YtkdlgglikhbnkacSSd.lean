/- The specification's reader of words: its state in both modes, and its small functions. -/
import Derived.Test.YtkdlgglikhbnkacPPut
namespace Go.Proofs.Ytkdlgglikhbnkac
open Go.ChangeShapes Go.WideShapes Go.ChangeAt Go.RowKit
set_option linter.unusedVariables false
set_option maxRecDepth 100000
attribute [local go_sem ↓] Go.wp_at_zero Go.wp_at_succ

def spf (tv : Value) (i : Nat) (d : Int) (nv pv : Value) (b : Bool) : Nat → Value
  | 0 => tv
  | 1 => .int .i64 (i : Int)
  | 2 => .int .i64 d
  | 3 => nv
  | 4 => pv
  | _ => .bool b

/-- Block rb is a reader that goes on: at word i, so deep, with these nodes. -/
structure Sd (base rb : Nat) (T : List Tk) (tv pv : Value) (w : World) (i d : Nat) (nv : Value) (q : List Qn) : Prop where
  row : RowOf w rb 55 6 (spf tv i (d : Int) nv pv false)
  words : WordsB base w tv T
  own : OwnN base w nv q
  rb0 : base ≤ rb
  nvb : nv.ownBlock ≠ some rb
  kib : ∀ k, k < q.length → (qnAt q k).2.ownBlock ≠ some rb
  hi : i ≤ T.length
  hd : d ≤ 30
  hq : q.length ≤ i
/-- Block rb is a reader that has given up at word i. -/
structure Bd (base rb : Nat) (T : List Tk) (tv pv : Value) (w : World) (i : Nat) : Prop where
  c4 : w.cell? ⟨rb, 4, none⟩ = some pv
  row : ∃ d nv pv, RowOf w rb 55 6 (spf tv i d nv pv true)
  words : WordsB base w tv T
  rb0 : base ≤ rb
  hi : i ≤ T.length

/-- Only block rb, and what is new, has turned. -/
structure Fz (rb : Nat) (w w' : World) : Prop where
  os : w'.os = w.os
  tape : w'.tape = w.tape
  output : w'.output = w.output
  size : w.heap.size ≤ w'.heap.size
  block : ∀ g, g < w.heap.size → g ≠ rb → w'.heap[g]? = w.heap[g]?
theorem Fz.of_below {rb : Nat} {w w' : World} (h : Below w.heap.size w w') : Fz rb w w' := ⟨h.os, h.tape, h.output, h.size, fun g hl _ => h.block g hl⟩
theorem Fz.trans {rb : Nat} {a b c : World} (h : Fz rb a b) (k : Fz rb b c) : Fz rb a c :=
  ⟨k.os.trans h.os, k.tape.trans h.tape, k.output.trans h.output, Nat.le_trans h.size k.size, fun g hl hr => by rw [k.block g (Nat.lt_of_lt_of_le hl h.size) hr, h.block g hl hr]⟩
theorem Fz.set {rb : Nat} {w : World} (o : Nat) (u : Value) : Fz rb w (w.setCell ⟨rb, o, none⟩ u) :=
  ⟨rfl, rfl, rfl, by simp [World.setCell], fun g _ hr => Below.heap_setCell _ _ _ _ hr⟩

theorem Sd.stays {base rb : Nat} {T : List Tk} {tv pv : Value} {w w' : World} {i d : Nat} {nv : Value} {q : List Qn} (h : Sd base rb T tv pv w i d nv q) (hb : Below w.heap.size w w') : Sd base rb T tv pv w' i d nv q :=
  ⟨h.row.of_block (hb.block _ h.row.lt), h.words.keep (fun g _ hl => hb.block g hl) hb.size, h.own.stays hb, h.rb0, h.nvb, h.kib, h.hi, h.hd, h.hq⟩
theorem Bd.lt {base rb : Nat} {T : List Tk} {tv pv : Value} {w : World} {i : Nat} (h : Bd base rb T tv pv w i) : rb < w.heap.size := by obtain ⟨_, _, _, h⟩ := h.row; exact h.lt
theorem Bd.stays {base rb : Nat} {T : List Tk} {tv pv : Value} {w w' : World} {i : Nat} (h : Bd base rb T tv pv w i) (hb : Below w.heap.size w w') : Bd base rb T tv pv w' i := by
  obtain ⟨d, nv, pv, hr⟩ := h.row
  exact ⟨cell_same (hb.block _ hr.lt) h.c4, ⟨d, nv, pv, hr.of_block (hb.block _ hr.lt)⟩, h.words.keep (fun g _ hl => hb.block g hl) hb.size, h.rb0, h.hi⟩
theorem Sd.base_le {base rb : Nat} {T : List Tk} {tv pv : Value} {w : World} {i d : Nat} {nv : Value} {q : List Qn} (h : Sd base rb T tv pv w i d nv q) : base ≤ w.heap.size := by
  have := h.row.lt; have := h.rb0; omega

/-- What both modes have: the words and the place. -/
structure Wd (base rb : Nat) (T : List Tk) (tv : Value) (w : World) (i : Nat) : Prop where
  c0 : w.cell? ⟨rb, 0, none⟩ = some tv
  c1 : w.cell? ⟨rb, 1, none⟩ = some (.int .i64 (i : Int))
  words : WordsB base w tv T
  hi : i ≤ T.length
theorem Sd.wd {base rb : Nat} {T : List Tk} {tv pv : Value} {w : World} {i d : Nat} {nv : Value} {q : List Qn} (h : Sd base rb T tv pv w i d nv q) : Wd base rb T tv w i := ⟨h.row.cell (by omega), h.row.cell (by omega), h.words, h.hi⟩
theorem Bd.wd {base rb : Nat} {T : List Tk} {tv pv : Value} {w : World} {i : Nat} (h : Bd base rb T tv pv w i) : Wd base rb T tv w i := by
  obtain ⟨_, _, _, hr⟩ := h.row
  exact ⟨hr.cell (by omega), hr.cell (by omega), h.words, h.hi⟩

set_option maxHeartbeats 1000000 in
theorem tok_any {base rb : Nat} {T : List Tk} {tv : Value} {w : World} {i : Nat} (h : Wd base rb T tv w i) :
    Calls Try.prog 58 #[.pointer (some ⟨rb, 0, none⟩)] w fun e w' => e = .returned (.agg #[.int .i64 (tkAt T i).k, .string (tkAt T i).s, .int .i64 (tkAt T i).n, .int .i64 (tkAt T i).p]) ∧ Below w.heap.size w w' := by
  have c0 := h.c0
  have c2 := h.c1
  have hrb : rb < w.heap.size := cell_lt c0
  obtain ⟨a, cap, rfl, hT, hw⟩ := id h.words
  have hi := h.hi
  have bA : Below w.heap.size w (w.alloc (Obj.cells #[.int .i64 0, .string ⟨#[]⟩, .int .i64 0, .int .i64 0] 59)) := (Below.refl _ _).alloc (Nat.le_refl _) _
  have k0 := cell_regrown (cell_stays bA c0)
  have k2 := cell_regrown (cell_stays bA c2)
  have r0 : (w.alloc (Obj.cells #[.int .i64 0, .string ⟨#[]⟩, .int .i64 0, .int .i64 0] 59)).cell? ⟨w.heap.size, 0, none⟩ = some (.int .i64 0) := by simp [go_sem]
  have r1 : (w.alloc (Obj.cells #[.int .i64 0, .string ⟨#[]⟩, .int .i64 0, .int .i64 0] 59)).cell? ⟨w.heap.size, 1, none⟩ = some (.string ⟨#[]⟩) := by simp [go_sem]
  have r2 : (w.alloc (Obj.cells #[.int .i64 0, .string ⟨#[]⟩, .int .i64 0, .int .i64 0] 59)).cell? ⟨w.heap.size, 2, none⟩ = some (.int .i64 0) := by simp [go_sem]
  have r3 : (w.alloc (Obj.cells #[.int .i64 0, .string ⟨#[]⟩, .int .i64 0, .int .i64 0] 59)).cell? ⟨w.heap.size, 3, none⟩ = some (.int .i64 0) := by simp [go_sem]
  have rf : ∀ j, (w.alloc (Obj.cells #[.int .i64 0, .string ⟨#[]⟩, .int .i64 0, .int .i64 0] 59)).frozen? ⟨w.heap.size, j, none⟩ = false := fun j => by simp [go_sem]
  by_cases he : i < T.length
  · obtain ⟨g, rfl, hg0, hg, hI⟩ := hw (by omega)
    obtain ⟨x0, x1, x2, x3⟩ := hI i (by omega)
    have i0 : (0 : Int) ≤ (i : Int) := by omega
    have i1 : (i : Int) < (T.length : Int) := by omega
    clear hw hI
    go_enter Try.func58, Try.ntmps58
    go_wp2_with fail
    refine wp_region_quiet_below (by kernel_rfl) (by kernel_rfl) ?_
    repeat (go_big_quiet_step (fail))
    refine wpQuiet_nil ?_
    intro w4 hw4
    obtain ⟨⟨dq, osq⟩, hw5⟩ := hw4
    have hb4 : Below _ _ w4 := hw5 ▸ below_regrown _ dq osq
    have s0 := cell_stays hb4 r0
    have s1 := cell_stays hb4 r1
    have s2 := cell_stays hb4 r2
    have s3 := cell_stays hb4 r3
    have sf : ∀ j, w4.frozen? ⟨w.heap.size, j, none⟩ = false := fun j => by rw [hb4.frozen (by simp)]; exact rf j
    have b4 : Below w.heap.size w w4 := bA.trans (hb4.mono bA.size)
    have S0 : ∀ x, Below w4.heap.size w4 x → x.cell? ⟨rb, 0, none⟩ = some (.slice (some ⟨g, 0, none⟩) T.length cap) ∧ x.cell? ⟨rb, 1, none⟩ = some (.int .i64 (i : Int)) ∧ x.cell? ⟨g, i * 4, none⟩ = some (.int .i64 (tkAt T i).k) ∧ x.cell? ⟨g, i * 4 + 1, none⟩ = some (.string (tkAt T i).s) ∧ x.cell? ⟨g, i * 4 + 1 + 1, none⟩ = some (.int .i64 (tkAt T i).n) ∧ x.cell? ⟨g, i * 4 + 1 + 1 + 1, none⟩ = some (.int .i64 (tkAt T i).p) := fun x hx =>
      ⟨cell_stays hx (cell_stays b4 c0), cell_stays hx (cell_stays b4 c2), cell_stays hx (cell_stays b4 x0), cell_stays hx (cell_stays b4 x1), cell_stays hx (cell_stays b4 x2), cell_stays hx (cell_stays b4 x3)⟩
    clear hw5 k0 k2 r0 r1 r2 r3 rf
    go_wp2_with fail
    refine region_last (fun x => x.cell? ⟨rb, 0, none⟩ = some (.slice (some ⟨g, 0, none⟩) T.length cap) ∧ x.cell? ⟨rb, 1, none⟩ = some (.int .i64 (i : Int)) ∧ x.cell? ⟨g, i * 4, none⟩ = some (.int .i64 (tkAt T i).k) ∧ x.cell? ⟨g, i * 4 + 1, none⟩ = some (.string (tkAt T i).s) ∧ x.cell? ⟨g, i * 4 + 1 + 1, none⟩ = some (.int .i64 (tkAt T i).n) ∧ x.cell? ⟨g, i * 4 + 1 + 1 + 1, none⟩ = some (.int .i64 (tkAt T i).p)) (by kernel_rfl) (by kernel_rfl) (by kernel_rfl) (S0 _ (Below.refl _ _).drew) (fun hHeld => ?_)
    simp only [List.dropLast, List.length_cons, List.length_nil, Nat.reduceAdd]
    refine takeL (i := 0) (v := ?_) rfl (by kernel_rfl) (by kernel_rfl) (by kernel_rfl) (fun _ _ _ h => h) rfl (by assumption) ?_ ?_
    rotate_left
    · (intro wS hSw; (try dsimp only at hSw); go_simp; try with_reducible rfl)
    (try simp only [Act.put, List.setIfInBounds_toArray, List.set_cons_zero, List.set_cons_succ])
    refine takeL (i := 1) (v := ?_) rfl (by kernel_rfl) (by kernel_rfl) (by kernel_rfl) (fun _ _ _ h => h) rfl (by assumption) ?_ ?_
    rotate_left
    · (intro wS hSw; (try dsimp only at hSw); go_simp; try with_reducible rfl)
    (try simp only [Act.put, List.setIfInBounds_toArray, List.set_cons_zero, List.set_cons_succ])
    refine takeL (i := 2) (v := ?_) rfl (by kernel_rfl) (by kernel_rfl) (by kernel_rfl) (fun _ _ _ h => h) rfl (by assumption) ?_ ?_
    rotate_left
    · (intro wS hSw; (try dsimp only at hSw); go_simp; try with_reducible rfl)
    (try simp only [Act.put, List.setIfInBounds_toArray, List.set_cons_zero, List.set_cons_succ])
    refine takeL (i := 3) (v := ?_) rfl (by kernel_rfl) (by kernel_rfl) (by kernel_rfl) (fun _ _ _ h => h) rfl (by assumption) ?_ ?_
    rotate_left
    · (intro wS hSw; (try dsimp only at hSw); go_simp; try with_reducible rfl)
    (try simp only [Act.put, List.setIfInBounds_toArray, List.set_cons_zero, List.set_cons_succ])
    refine takeL (i := 4) (v := ?_) rfl (by kernel_rfl) (by kernel_rfl) (by kernel_rfl) (fun _ _ _ h => h) rfl (by assumption) ?_ ?_
    rotate_left
    · (intro wS hSw; (try dsimp only at hSw); go_simp; try with_reducible rfl)
    (try simp only [Act.put, List.setIfInBounds_toArray, List.set_cons_zero, List.set_cons_succ])
    refine takeL (i := 5) (v := ?_) rfl (by kernel_rfl) (by kernel_rfl) (by kernel_rfl) (fun _ _ _ h => h) rfl (by assumption) ?_ ?_
    rotate_left
    · (intro wS hSw; (try dsimp only at hSw); go_simp; try with_reducible rfl)
    (try simp only [Act.put, List.setIfInBounds_toArray, List.set_cons_zero, List.set_cons_succ])
    refine takeL (i := 6) (v := ?_) rfl (by kernel_rfl) (by kernel_rfl) (by kernel_rfl) (fun _ _ _ h => h) rfl (by assumption) ?_ ?_
    rotate_left
    · (intro wS hSw; (try dsimp only at hSw); go_simp; try with_reducible rfl)
    (try simp only [Act.put, List.setIfInBounds_toArray, List.set_cons_zero, List.set_cons_succ])
    refine takeL (i := 7) (v := ?_) rfl (by kernel_rfl) (by kernel_rfl) (by kernel_rfl) (fun _ _ _ h => h) rfl (by assumption) ?_ ?_
    rotate_left
    · (intro wS hSw; (try dsimp only at hSw); go_simp; try with_reducible rfl)
    (try simp only [Act.put, List.setIfInBounds_toArray, List.set_cons_zero, List.set_cons_succ])
    refine takeL (i := 8) (v := ?_) rfl (by kernel_rfl) (by kernel_rfl) (by kernel_rfl) (fun _ _ _ h => h) rfl (by assumption) ?_ ?_
    rotate_left
    · (intro wS hSw; (try dsimp only at hSw); go_simp; try with_reducible rfl)
    (try simp only [Act.put, List.setIfInBounds_toArray, List.set_cons_zero, List.set_cons_succ])
    refine takeL (i := 9) (v := ?_) rfl (by kernel_rfl) (by kernel_rfl) (by kernel_rfl) (fun _ _ _ h => h) rfl (by assumption) ?_ ?_
    rotate_left
    · (intro wS hSw; (try dsimp only at hSw); go_simp; try with_reducible rfl)
    (try simp only [Act.put, List.setIfInBounds_toArray, List.set_cons_zero, List.set_cons_succ])
    refine wpAnyH_done (by kernel_rfl) ?_ _
    refine lastL (n := 10) rfl rfl ?_
    clear hHeld S0
    go_simp
    go_wp2
    refine bodyPost_ret (v := .agg #[.int .i64 (tkAt T i).k, .string (tkAt T i).s, .int .i64 (tkAt T i).n, .int .i64 (tkAt T i).p]) (by simp [results, Try.results58, go_sem, s0, s1, s2, s3]) rfl ⟨rfl, ?_⟩
    go_grown
  · have hie : i = T.length := by omega
    subst hie
    rw [wS_end (Nat.le_refl _)]
    go_enter Try.func58, Try.ntmps58
    go_wp2_with fail
    refine wp_region_quiet_below (by kernel_rfl) (by kernel_rfl) ?_
    repeat (go_big_quiet_step (fail))
    refine wpQuiet_nil ?_
    intro w4 hw4
    obtain ⟨⟨dq, osq⟩, hw5⟩ := hw4
    have hb4 : Below _ _ w4 := hw5 ▸ below_regrown _ dq osq
    have s0 := cell_stays hb4 r0
    have s1 := cell_stays hb4 r1
    have s2 := cell_stays hb4 r2
    have s3 := cell_stays hb4 r3
    have sf : ∀ j, w4.frozen? ⟨w.heap.size, j, none⟩ = false := fun j => by rw [hb4.frozen (by simp)]; exact rf j
    have b4 : Below w.heap.size w w4 := bA.trans (hb4.mono bA.size)
    clear hw5 k0 k2 r0 r1 r2 r3 rf
    go_wp2
    refine bodyPost_ret (v := .agg #[.int .i64 0, .string ⟨#[]⟩, .int .i64 0, .int .i64 0]) (by simp [results, Try.results58, go_sem, s0, s1, s2, s3]) rfl ⟨rfl, ?_⟩
    go_grown

/-- A word of the language's own, or a sign, of this text. -/
def isB (T : List Tk) (i : Nat) (x : ByteArray) : Bool := (decide ((tkAt T i).k = 5) || decide ((tkAt T i).k = 3)) && decide (wS T i = x)

theorem is_any {base rb : Nat} {T : List Tk} {tv : Value} {w : World} {i : Nat} (h : Wd base rb T tv w i) (x : ByteArray) :
    Calls Try.prog 59 #[.pointer (some ⟨rb, 0, none⟩), .string x] w fun e w' => e = .returned (.bool (isB T i x)) ∧ Below w.heap.size w w' := by
  have ht := tok_any h
  unfold isB wS
  rcases hk : tkAt T i with ⟨tk, ts, tn, tp⟩
  rw [hk] at ht
  dsimp only at ht ⊢
  clear hk
  have hx := text_beq ts x
  by_cases h5 : tk = 5
  · subst h5
    go_enter Try.func59, Try.ntmps59
    go_wp2_with fail
    refine ht.mono ?_
    rintro e w1 ⟨rfl, hb1⟩
    go_wp2
    go_ret
    refine ⟨?_, hb1.alloc hb1.size _⟩
    simp
  · by_cases h3 : tk = 3
    · subst h3
      go_enter Try.func59, Try.ntmps59
      go_wp2_with fail
      refine ht.mono ?_
      rintro e w1 ⟨rfl, hb1⟩
      go_wp2
      go_ret
      refine ⟨?_, hb1.alloc hb1.size _⟩
      simp
    · go_enter Try.func59, Try.ntmps59
      go_wp2_with fail
      refine ht.mono ?_
      rintro e w1 ⟨rfl, hb1⟩
      go_wp2
      go_ret
      refine ⟨?_, hb1.alloc hb1.size _⟩
      simp [h5, h3]

end Go.Proofs.Ytkdlgglikhbnkac
