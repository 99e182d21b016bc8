/- The reader's small functions: word, take, sees, skip, enter, leave. -/
import Derived.Test.YtkdlgglikhbnkacPRd
namespace Go.Proofs.Ytkdlgglikhbnkac
open Go.ChangeShapes Go.WideShapes Go.ChangeAt Go.RowKit
set_option linter.unusedVariables false
set_option maxRecDepth 100000
attribute [local go_sem ↓] Go.wp_at_zero Go.wp_at_succ

def tkV (t : Tk) : Value := .agg #[.int .i64 t.k, .string t.s, .int .i64 t.n, .int .i64 t.p]

set_option maxHeartbeats 1000000 in
theorem word_any {base rb : Nat} {T : List Tk} {wv : Value} {en : Nat} {w : World} {i d : Nat} {nv : Value} {q : List Qn} (h : Rd base rb T wv en w i d nv q) :
    Calls Try.prog 64 #[.pointer (some ⟨rb, 0, none⟩)] w fun e w' => e = .returned (.agg #[.int .i64 (tkAt T i).k, .string (tkAt T i).s, .int .i64 (tkAt T i).n, .int .i64 (tkAt T i).p]) ∧ Below w.heap.size w w' := by
  obtain ⟨c0, c1, c2, _, _⟩ := h.cells
  have hrb := h.row.lt
  obtain ⟨a, cap, rfl, hT, hw⟩ := id h.words
  have hi := h.hi
  have bA : Below w.heap.size w (w.alloc (Obj.cells #[.int .i64 0, .string ⟨#[]⟩, .int .i64 0, .int .i64 0] 59)) := (Below.refl _ _).alloc (Nat.le_refl _) _
  have k0 := cell_regrown (cell_stays bA c0)
  have k2 := cell_regrown (cell_stays bA c2)
  have r0 : (w.alloc (Obj.cells #[.int .i64 0, .string ⟨#[]⟩, .int .i64 0, .int .i64 0] 59)).cell? ⟨w.heap.size, 0, none⟩ = some (.int .i64 0) := by simp [go_sem]
  have r1 : (w.alloc (Obj.cells #[.int .i64 0, .string ⟨#[]⟩, .int .i64 0, .int .i64 0] 59)).cell? ⟨w.heap.size, 1, none⟩ = some (.string ⟨#[]⟩) := by simp [go_sem]
  have r2 : (w.alloc (Obj.cells #[.int .i64 0, .string ⟨#[]⟩, .int .i64 0, .int .i64 0] 59)).cell? ⟨w.heap.size, 2, none⟩ = some (.int .i64 0) := by simp [go_sem]
  have r3 : (w.alloc (Obj.cells #[.int .i64 0, .string ⟨#[]⟩, .int .i64 0, .int .i64 0] 59)).cell? ⟨w.heap.size, 3, none⟩ = some (.int .i64 0) := by simp [go_sem]
  have rf : ∀ j, (w.alloc (Obj.cells #[.int .i64 0, .string ⟨#[]⟩, .int .i64 0, .int .i64 0] 59)).frozen? ⟨w.heap.size, j, none⟩ = false := fun j => by simp [go_sem]
  by_cases he : i = T.length
  · subst he
    rw [wS_end (Nat.le_refl _)]
    go_enter Try.func64, Try.ntmps64
    go_wp2_with fail
    refine wp_region_quiet_below (by kernel_rfl) (by kernel_rfl) ?_
    repeat (go_big_quiet_step (fail))
    refine wpQuiet_nil ?_
    intro w4 hw4
    obtain ⟨⟨dq, osq⟩, hw5⟩ := hw4
    have hb4 : Below _ _ w4 := hw5 ▸ below_regrown _ dq osq
    have s0 := cell_stays hb4 r0
    have s1 := cell_stays hb4 r1
    have s2 := cell_stays hb4 r2
    have s3 := cell_stays hb4 r3
    have sf : ∀ j, w4.frozen? ⟨w.heap.size, j, none⟩ = false := fun j => by rw [hb4.frozen (by simp)]; exact rf j
    have b4 : Below w.heap.size w w4 := bA.trans (hb4.mono bA.size)
    clear hw5 k0 k2 r0 r1 r2 r3 rf
    go_wp2
    refine bodyPost_ret (v := .agg #[.int .i64 0, .string ⟨#[]⟩, .int .i64 0, .int .i64 0]) (by simp [results, Try.results64, go_sem, s0, s1, s2, s3]) rfl ⟨rfl, ?_⟩
    go_grown
  · obtain ⟨g, rfl, hg0, hg, hI⟩ := hw (by omega)
    obtain ⟨x0, x1, x2, x3⟩ := hI i (by omega)
    have hne : ¬ (i : Int) = (T.length : Int) := by omega
    have i0 : (0 : Int) ≤ (i : Int) := by omega
    have i1 : (i : Int) < (T.length : Int) := by omega
    clear hw hI
    go_enter Try.func64, Try.ntmps64
    go_wp2_with fail
    refine wp_region_quiet_below (by kernel_rfl) (by kernel_rfl) ?_
    repeat (go_big_quiet_step (fail))
    refine wpQuiet_nil ?_
    intro w4 hw4
    obtain ⟨⟨dq, osq⟩, hw5⟩ := hw4
    have hb4 : Below _ _ w4 := hw5 ▸ below_regrown _ dq osq
    have s0 := cell_stays hb4 r0
    have s1 := cell_stays hb4 r1
    have s2 := cell_stays hb4 r2
    have s3 := cell_stays hb4 r3
    have sf : ∀ j, w4.frozen? ⟨w.heap.size, j, none⟩ = false := fun j => by rw [hb4.frozen (by simp)]; exact rf j
    have b4 : Below w.heap.size w w4 := bA.trans (hb4.mono bA.size)
    have S0 : ∀ x, Below w4.heap.size w4 x → x.cell? ⟨rb, 0, none⟩ = some (.slice (some ⟨g, 0, none⟩) T.length cap) ∧ x.cell? ⟨rb, 2, none⟩ = some (.int .i64 (i : Int)) ∧ x.cell? ⟨g, i * 4, none⟩ = some (.int .i64 (tkAt T i).k) ∧ x.cell? ⟨g, i * 4 + 1, none⟩ = some (.string (tkAt T i).s) ∧ x.cell? ⟨g, i * 4 + 1 + 1, none⟩ = some (.int .i64 (tkAt T i).n) ∧ x.cell? ⟨g, i * 4 + 1 + 1 + 1, none⟩ = some (.int .i64 (tkAt T i).p) := fun x hx =>
      ⟨cell_stays hx (cell_stays b4 c0), cell_stays hx (cell_stays b4 c2), cell_stays hx (cell_stays b4 x0), cell_stays hx (cell_stays b4 x1), cell_stays hx (cell_stays b4 x2), cell_stays hx (cell_stays b4 x3)⟩
    clear hw5 k0 k2 r0 r1 r2 r3 rf
    go_wp2_with fail
    refine region_last (fun x => x.cell? ⟨rb, 0, none⟩ = some (.slice (some ⟨g, 0, none⟩) T.length cap) ∧ x.cell? ⟨rb, 2, none⟩ = some (.int .i64 (i : Int)) ∧ x.cell? ⟨g, i * 4, none⟩ = some (.int .i64 (tkAt T i).k) ∧ x.cell? ⟨g, i * 4 + 1, none⟩ = some (.string (tkAt T i).s) ∧ x.cell? ⟨g, i * 4 + 1 + 1, none⟩ = some (.int .i64 (tkAt T i).n) ∧ x.cell? ⟨g, i * 4 + 1 + 1 + 1, none⟩ = some (.int .i64 (tkAt T i).p)) (by kernel_rfl) (by kernel_rfl) (by kernel_rfl) (S0 _ (Below.refl _ _).drew) (fun hHeld => ?_)
    simp only [List.dropLast, List.length_cons, List.length_nil, Nat.reduceAdd]
    refine takeL (i := 0) (v := ?_) rfl (by kernel_rfl) (by kernel_rfl) (by kernel_rfl) (fun _ _ _ h => h) rfl (by assumption) ?_ ?_
    rotate_left
    · (intro wS hSw; (try dsimp only at hSw); go_simp; try with_reducible rfl)
    (try simp only [Act.put, List.setIfInBounds_toArray, List.set_cons_zero, List.set_cons_succ])
    refine takeL (i := 1) (v := ?_) rfl (by kernel_rfl) (by kernel_rfl) (by kernel_rfl) (fun _ _ _ h => h) rfl (by assumption) ?_ ?_
    rotate_left
    · (intro wS hSw; (try dsimp only at hSw); go_simp; try with_reducible rfl)
    (try simp only [Act.put, List.setIfInBounds_toArray, List.set_cons_zero, List.set_cons_succ])
    refine takeL (i := 2) (v := ?_) rfl (by kernel_rfl) (by kernel_rfl) (by kernel_rfl) (fun _ _ _ h => h) rfl (by assumption) ?_ ?_
    rotate_left
    · (intro wS hSw; (try dsimp only at hSw); go_simp; try with_reducible rfl)
    (try simp only [Act.put, List.setIfInBounds_toArray, List.set_cons_zero, List.set_cons_succ])
    refine takeL (i := 3) (v := ?_) rfl (by kernel_rfl) (by kernel_rfl) (by kernel_rfl) (fun _ _ _ h => h) rfl (by assumption) ?_ ?_
    rotate_left
    · (intro wS hSw; (try dsimp only at hSw); go_simp; try with_reducible rfl)
    (try simp only [Act.put, List.setIfInBounds_toArray, List.set_cons_zero, List.set_cons_succ])
    refine takeL (i := 4) (v := ?_) rfl (by kernel_rfl) (by kernel_rfl) (by kernel_rfl) (fun _ _ _ h => h) rfl (by assumption) ?_ ?_
    rotate_left
    · (intro wS hSw; (try dsimp only at hSw); go_simp; try with_reducible rfl)
    (try simp only [Act.put, List.setIfInBounds_toArray, List.set_cons_zero, List.set_cons_succ])
    refine takeL (i := 5) (v := ?_) rfl (by kernel_rfl) (by kernel_rfl) (by kernel_rfl) (fun _ _ _ h => h) rfl (by assumption) ?_ ?_
    rotate_left
    · (intro wS hSw; (try dsimp only at hSw); go_simp; try with_reducible rfl)
    (try simp only [Act.put, List.setIfInBounds_toArray, List.set_cons_zero, List.set_cons_succ])
    refine takeL (i := 6) (v := ?_) rfl (by kernel_rfl) (by kernel_rfl) (by kernel_rfl) (fun _ _ _ h => h) rfl (by assumption) ?_ ?_
    rotate_left
    · (intro wS hSw; (try dsimp only at hSw); go_simp; try with_reducible rfl)
    (try simp only [Act.put, List.setIfInBounds_toArray, List.set_cons_zero, List.set_cons_succ])
    refine takeL (i := 7) (v := ?_) rfl (by kernel_rfl) (by kernel_rfl) (by kernel_rfl) (fun _ _ _ h => h) rfl (by assumption) ?_ ?_
    rotate_left
    · (intro wS hSw; (try dsimp only at hSw); go_simp; try with_reducible rfl)
    (try simp only [Act.put, List.setIfInBounds_toArray, List.set_cons_zero, List.set_cons_succ])
    refine takeL (i := 8) (v := ?_) rfl (by kernel_rfl) (by kernel_rfl) (by kernel_rfl) (fun _ _ _ h => h) rfl (by assumption) ?_ ?_
    rotate_left
    · (intro wS hSw; (try dsimp only at hSw); go_simp; try with_reducible rfl)
    (try simp only [Act.put, List.setIfInBounds_toArray, List.set_cons_zero, List.set_cons_succ])
    refine takeL (i := 9) (v := ?_) rfl (by kernel_rfl) (by kernel_rfl) (by kernel_rfl) (fun _ _ _ h => h) rfl (by assumption) ?_ ?_
    rotate_left
    · (intro wS hSw; (try dsimp only at hSw); go_simp; try with_reducible rfl)
    (try simp only [Act.put, List.setIfInBounds_toArray, List.set_cons_zero, List.set_cons_succ])
    refine wpAnyH_done (by kernel_rfl) ?_ _
    refine lastL (n := 10) rfl rfl ?_
    clear hHeld S0
    go_simp
    go_wp2
    refine bodyPost_ret (v := .agg #[.int .i64 (tkAt T i).k, .string (tkAt T i).s, .int .i64 (tkAt T i).n, .int .i64 (tkAt T i).p]) (by simp [results, Try.results64, go_sem, s0, s1, s2, s3]) rfl ⟨rfl, ?_⟩
    go_grown

theorem Rd.set {base rb : Nat} {T : List Tk} {wv : Value} {en : Nat} {w : World} {i d : Nat} {nv : Value} {q : List Qn} (h : Rd base rb T wv en w i d nv q) (j : Nat) (v : Value) {i' d' : Nat}
    (hf : ∀ k, k < 5 → (if k = j then v else rdf wv en i d nv k) = rdf wv en i' d' nv k) (hi : i' ≤ T.length) (hd : d' ≤ 30) (hq : q.length ≤ i') : Rd base rb T wv en (w.setCell ⟨rb, j, none⟩ v) i' d' nv q ∧ Mv rb w nv q (w.setCell ⟨rb, j, none⟩ v) nv q := by
  have hz : (w.setCell ⟨rb, j, none⟩ v).heap.size = w.heap.size := by simp [World.setCell]
  have hk : ∀ g, g ≠ rb → (w.setCell ⟨rb, j, none⟩ v).heap[g]? = w.heap[g]? := fun g hg => Below.heap_setCell _ _ _ _ hg
  refine ⟨⟨(h.row.set j v).congr hf, h.words.keep (fun g hg _ => hk g (by have := h.rb0; omega)) (by omega), h.own.keep (fun g hg _ => hk g (fun e => ?_)), h.rb0, h.nvb, h.kib, hi, hd, hq⟩,
    ⟨rfl, rfl, rfl, by omega, fun g _ hr _ => hk g hr, fun g hg => .inl hg, fun k hk g hg => .inl ⟨k, hk, hg⟩⟩⟩
  rcases hg with hg | ⟨k, hk, hg⟩
  · exact h.nvb (by rw [← e]; exact hg)
  · exact h.kib k hk (by rw [← e]; exact hg)

theorem Mv.setNew {rb : Nat} {w x : World} {nv nv' : Value} {q q' : List Qn} (h : Mv rb w nv q x nv' q') {a : Addr} (ha : w.heap.size ≤ a.block) (u : Value) : Mv rb w nv q (x.setCell a u) nv' q' := by
  have hz : (x.setCell a u).heap.size = x.heap.size := by simp [World.setCell]
  exact ⟨h.os, h.tape, h.output, by rw [hz]; exact h.size, fun g hg hr hn => by rw [Below.heap_setCell _ _ _ _ (by omega)]; exact h.block g hg hr hn, h.ownv, h.kids⟩
theorem Rd.setNew {base rb : Nat} {T : List Tk} {wv : Value} {en : Nat} {w x : World} {i d i0 d0 : Nat} {nv : Value} {q : List Qn} (h0 : Rd base rb T wv en w i0 d0 nv q) (h : Rd base rb T wv en x i d nv q) {a : Addr} (ha : w.heap.size ≤ a.block) (u : Value) : Rd base rb T wv en (x.setCell a u) i d nv q := by
  have hz : (x.setCell a u).heap.size = x.heap.size := by simp [World.setCell]
  have hr := h0.row.lt
  have hk : ∀ g, g < w.heap.size → (x.setCell a u).heap[g]? = x.heap[g]? := fun g hg => Below.heap_setCell _ _ _ _ (by omega)
  refine ⟨h.row.of_block (hk _ hr), h.words.keep (fun g hg _ => hk g (by have := h0.base_le; omega)) (by omega), h.own.keep (fun g hg _ => hk g ?_), h.rb0, h.nvb, h.kib, h.hi, h.hd, h.hq⟩
  rcases hg with hg | ⟨k, hk, hg⟩
  · exact (own_lt h0.own.row hg).2
  · exact (own_lt (h0.own.lists k hk) hg).2

theorem text_beq (x y : ByteArray) : (x.toList == y.toList) = decide (x = y) := by
  by_cases h : x = y
  · subst h; simp
  · rw [ByteArray.toList_eq, ByteArray.toList_eq, decide_eq_false h, beq_eq_false_iff_ne]
    exact fun e => h (bytes_inj e)

theorem sees_any {base rb : Nat} {T : List Tk} {wv : Value} {en : Nat} {w : World} {i d : Nat} {nv : Value} {q : List Qn} (h : Rd base rb T wv en w i d nv q) (x : ByteArray) :
    Calls Try.prog 63 #[.pointer (some ⟨rb, 0, none⟩), .string x] w fun e w' => e = .returned (.bool (decide (wS T i = x))) ∧ Below w.heap.size w w' := by
  have hf : ∀ y : World, (Instr.field 59 (.agg #[.int .i64 (tkAt T i).k, .string (tkAt T i).s, .int .i64 (tkAt T i).n, .int .i64 (tkAt T i).p]) 1).run Try.prog y = .ok (.string (tkAt T i).s) y := fun y => by kernel_rfl
  go_enter Try.func63, Try.ntmps63
  go_wp2_with fail
  refine (word_any h).mono ?_
  rintro e w2 ⟨rfl, hb⟩
  go_wp2
  go_ret
  exact ⟨by rw [wS, ← text_beq]; rfl, hb⟩

/-- What a part that answers nothing leaves. -/
def URet (base rb : Nat) (T : List Tk) (wv : Value) (en : Nat) (w : World) (nv : Value) (q : List Qn) (d : Nat) (r : PR Unit) (e : Ending) (w' : World) : Prop := match r with
  | .ok _ i ns => e = .returned (.tuple #[]) ∧ Rd base rb T wv en w' i d nv q ∧ ns = qnds q ∧ Mv rb w nv q w' nv q
  | .bad i => e = gives T en i ∧ i ≤ T.length ∧ Below base w w'

theorem skip_any {base rb : Nat} {T : List Tk} {wv : Value} {en : Nat} {w : World} {i d : Nat} {nv : Value} {q : List Qn} (h : Rd base rb T wv en w i d nv q) (x : ByteArray) (hx : x ≠ empS) :
    Calls Try.prog 49 #[.pointer (some ⟨rb, 0, none⟩), .string x] w (URet base rb T wv en w nv q d (skipF T x i (qnds q))) := by
  by_cases he : wS T i = x
  · have hr : skipF T x i (qnds q) = .ok () (i + 1) (qnds q) := by rw [skipF, if_pos he]
    have hi := wS_lt he hx
    rw [hr]
    have hd : decide (wS T i = x) = true := by simpa using he
    go_enter Try.func49, Try.ntmps49
    go_wp2_with fail
    refine (sees_any h x).mono ?_
    rintro e w2 ⟨rfl, hb⟩
    rw [hd]
    have h2 := h.stays hb
    obtain ⟨_, _, c2, _, _⟩ := h2.cells
    have f2 := h2.row.frozen 2
    have hT := h.words
    have hT6 : T.length ≤ 6000 := by obtain ⟨_, _, _, h, _⟩ := hT; exact h
    obtain ⟨h3, m3⟩ := h2.set 2 (.int .i64 ((i : Int) + 1)) (i' := i + 1) (d' := d) (fun k hk => by
      match k, hk with
      | 0, _ => rfl
      | 1, _ => rfl
      | 2, _ => simp [rdf]
      | 3, _ => rfl
      | 4, _ => rfl) hi h.hd (by have := h.hq; omega)
    clear he hd hr hT
    go_wp2
    refine bodyPost_end (results_none rfl _ _ _) rfl ?_
    exact ⟨rfl, h3, rfl, (Mv.of_below hb).trans m3⟩
  · have hr : skipF T x i (qnds q) = .bad i := by rw [skipF, if_neg he]
    rw [hr]
    have hd : decide (wS T i = x) = false := by simpa using he
    go_enter Try.func49, Try.ntmps49
    go_wp2_with fail
    refine (sees_any h x).mono ?_
    rintro e w2 ⟨rfl, hb⟩
    rw [hd]
    go_wp2_with fail
    refine (here_any (h.stays hb)).mono ?_
    rintro e w3 ⟨rfl, hb3⟩
    go_wp2
    exact ⟨rfl, rfl, h.hi, (hb.trans (hb3.mono hb.size)).mono h.base_le⟩

/-- What a part that answers a word leaves. -/
def TRet (base rb : Nat) (T : List Tk) (wv : Value) (en : Nat) (w : World) (nv : Value) (q : List Qn) (d : Nat) (r : PR Tk) (e : Ending) (w' : World) : Prop := match r with
  | .ok t i ns => e = .returned (.agg #[.int .i64 t.k, .string t.s, .int .i64 t.n, .int .i64 t.p]) ∧ Rd base rb T wv en w' i d nv q ∧ ns = qnds q ∧ Mv rb w nv q w' nv q
  | .bad i => e = gives T en i ∧ i ≤ T.length ∧ Below base w w'

theorem take_any {base rb : Nat} {T : List Tk} {wv : Value} {en : Nat} {w : World} {i d : Nat} {nv : Value} {q : List Qn} (h : Rd base rb T wv en w i d nv q) (k : Int) (hk : k ≠ 0) :
    Calls Try.prog 50 #[.pointer (some ⟨rb, 0, none⟩), .int .i64 k] w (TRet base rb T wv en w nv q d (takeF T k i (qnds q))) := by
  have bA : Below w.heap.size w (w.alloc (Obj.cells #[.int .i64 0, .string ⟨#[]⟩, .int .i64 0, .int .i64 0] 59)) := (Below.refl _ _).alloc (Nat.le_refl _) _
  have hA := h.stays bA
  have hrb := h.row.lt
  have r0 : (w.alloc (Obj.cells #[.int .i64 0, .string ⟨#[]⟩, .int .i64 0, .int .i64 0] 59)).cell? ⟨w.heap.size, 0, none⟩ = some (.int .i64 0) := by simp [go_sem]
  have r1 : (w.alloc (Obj.cells #[.int .i64 0, .string ⟨#[]⟩, .int .i64 0, .int .i64 0] 59)).cell? ⟨w.heap.size, 1, none⟩ = some (.string ⟨#[]⟩) := by simp [go_sem]
  have r2 : (w.alloc (Obj.cells #[.int .i64 0, .string ⟨#[]⟩, .int .i64 0, .int .i64 0] 59)).cell? ⟨w.heap.size, 2, none⟩ = some (.int .i64 0) := by simp [go_sem]
  have r3 : (w.alloc (Obj.cells #[.int .i64 0, .string ⟨#[]⟩, .int .i64 0, .int .i64 0] 59)).cell? ⟨w.heap.size, 3, none⟩ = some (.int .i64 0) := by simp [go_sem]
  have rf : ∀ j, (w.alloc (Obj.cells #[.int .i64 0, .string ⟨#[]⟩, .int .i64 0, .int .i64 0] 59)).frozen? ⟨w.heap.size, j, none⟩ = false := fun j => by simp [go_sem]
  go_enter Try.func50, Try.ntmps50
  go_wp2_with fail
  refine (word_any hA).mono ?_
  rintro e w2 ⟨rfl, hb⟩
  have hb3 : Below w2.heap.size w2 (w2.alloc (Obj.cells #[.int .i64 (tkAt T i).k, .string (tkAt T i).s, .int .i64 (tkAt T i).n, .int .i64 (tkAt T i).p] 59)) := (Below.refl _ _).alloc (Nat.le_refl _) _
  have b2 := hb.trans (hb3.mono hb.size)
  have s0 := cell_stays b2 r0
  have s1 := cell_stays b2 r1
  have s2 := cell_stays b2 r2
  have s3 := cell_stays b2 r3
  have sf : ∀ j, (w2.alloc (Obj.cells #[.int .i64 (tkAt T i).k, .string (tkAt T i).s, .int .i64 (tkAt T i).n, .int .i64 (tkAt T i).p] 59)).frozen? ⟨w.heap.size, j, none⟩ = false := fun j => by rw [b2.frozen (by simp)]; exact rf j
  have y0 : (w2.alloc (Obj.cells #[.int .i64 (tkAt T i).k, .string (tkAt T i).s, .int .i64 (tkAt T i).n, .int .i64 (tkAt T i).p] 59)).cell? ⟨w2.heap.size, 0, none⟩ = some (.int .i64 (tkAt T i).k) := by simp [go_sem]
  have y1 : (w2.alloc (Obj.cells #[.int .i64 (tkAt T i).k, .string (tkAt T i).s, .int .i64 (tkAt T i).n, .int .i64 (tkAt T i).p] 59)).cell? ⟨w2.heap.size, 1, none⟩ = some (.string (tkAt T i).s) := by simp [go_sem]
  have y2 : (w2.alloc (Obj.cells #[.int .i64 (tkAt T i).k, .string (tkAt T i).s, .int .i64 (tkAt T i).n, .int .i64 (tkAt T i).p] 59)).cell? ⟨w2.heap.size, 2, none⟩ = some (.int .i64 (tkAt T i).n) := by simp [go_sem]
  have y3 : (w2.alloc (Obj.cells #[.int .i64 (tkAt T i).k, .string (tkAt T i).s, .int .i64 (tkAt T i).n, .int .i64 (tkAt T i).p] 59)).cell? ⟨w2.heap.size, 3, none⟩ = some (.int .i64 (tkAt T i).p) := by simp [go_sem]
  have h2 := hA.stays b2
  have hz1 := hb.size
  simp at hz1
  have hne : rb ≠ w2.heap.size := by omega
  have hne2 : rb ≠ w.heap.size := by omega
  have bw : Below w.heap.size w (w2.alloc (Obj.cells #[.int .i64 (tkAt T i).k, .string (tkAt T i).s, .int .i64 (tkAt T i).n, .int .i64 (tkAt T i).p] 59)) := bA.trans (b2.mono bA.size)
  clear r0 r1 r2 r3 rf b2 hA hb hb3
  by_cases he : (tkAt T i).k = k
  · have hr : takeF T k i (qnds q) = .ok (tkAt T i) (i + 1) (qnds q) := by rw [takeF, if_pos he]
    have hi := kind_lt he hk
    rw [hr]
    obtain ⟨_, _, c2, _, _⟩ := h2.cells
    have f2 := h2.row.frozen 2
    have hT6 : T.length ≤ 6000 := by obtain ⟨_, _, _, h, _⟩ := h.words; exact h
    obtain ⟨h3, m3⟩ := h2.set 2 (.int .i64 ((i : Int) + 1)) (i' := i + 1) (d' := d) (fun k hk => by
      match k, hk with
      | 0, _ => rfl
      | 1, _ => rfl
      | 2, _ => simp [rdf]
      | 3, _ => rfl
      | 4, _ => rfl) hi h.hd (by have := h.hq; omega)
    subst he
    have HR := hr
    change Hid _ at HR
    clear hr
    go_wp2
    rw [HR.out]
    have hm := (Mv.of_below bw).trans m3
    generalize (w2.alloc (Obj.cells #[.int .i64 (tkAt T i).k, .string (tkAt T i).s, .int .i64 (tkAt T i).n, .int .i64 (tkAt T i).p] 59)) = w5 at *
    refine bodyPost_ret (v := .agg #[.int .i64 (tkAt T i).k, .string (tkAt T i).s, .int .i64 (tkAt T i).n, .int .i64 (tkAt T i).p]) (by simp [results, Try.results50, go_sem, s0, s1, s2, s3]) rfl ⟨rfl, ?_, rfl, ?_⟩
    · exact h.setNew (h.setNew (h.setNew (h.setNew h3 (Nat.le_refl _) _) (Nat.le_refl _) _) (Nat.le_refl _) _) (Nat.le_refl _) _
    · exact (((hm.setNew (Nat.le_refl _) _).setNew (Nat.le_refl _) _).setNew (Nat.le_refl _) _).setNew (Nat.le_refl _) _
  · have hr : takeF T k i (qnds q) = .bad i := by rw [takeF, if_neg he]
    rw [hr]
    go_wp2_with fail
    refine (here_any h2).mono ?_
    rintro e w3 ⟨rfl, hb3⟩
    go_wp2
    exact ⟨rfl, rfl, h.hi, (bw.trans (hb3.mono bw.size)).mono h.base_le⟩

theorem enter_any {base rb : Nat} {T : List Tk} {wv : Value} {en : Nat} {w : World} {i d : Nat} {nv : Value} {q : List Qn} (h : Rd base rb T wv en w i d nv q) (hd : d ≠ 30) :
    Calls Try.prog 65 #[.pointer (some ⟨rb, 0, none⟩)] w fun e w' => e = .returned (.tuple #[]) ∧ Rd base rb T wv en w' i (d + 1) nv q ∧ Mv rb w nv q w' nv q := by
  obtain ⟨_, _, _, c3, _⟩ := h.cells
  have f3 := h.row.frozen 3
  have hd30 := h.hd
  have hne : ¬ (d : Int) = 30 := by omega
  obtain ⟨h3, m3⟩ := h.set 3 (.int .i64 ((d : Int) + 1)) (i' := i) (d' := d + 1) (fun k hk => by
      match k, hk with
      | 0, _ => rfl
      | 1, _ => rfl
      | 2, _ => rfl
      | 3, _ => simp [rdf]
      | 4, _ => rfl) h.hi (by omega) h.hq
  go_enter Try.func65, Try.ntmps65
  go_wp2
  refine bodyPost_end (results_none rfl _ _ _) rfl ?_
  exact ⟨rfl, h3, m3⟩

theorem enter_bad {base rb : Nat} {T : List Tk} {wv : Value} {en : Nat} {w : World} {i : Nat} {nv : Value} {q : List Qn} (h : Rd base rb T wv en w i 30 nv q) :
    Calls Try.prog 65 #[.pointer (some ⟨rb, 0, none⟩)] w fun e w' => e = gives T en i ∧ i ≤ T.length ∧ Below base w w' := by
  obtain ⟨_, _, _, c3, _⟩ := h.cells
  go_enter Try.func65, Try.ntmps65
  go_wp2_with fail
  refine (here_any h).mono ?_
  rintro e w3 ⟨rfl, hb3⟩
  go_wp2
  exact ⟨rfl, rfl, h.hi, hb3.mono h.base_le⟩

theorem leave_any {base rb : Nat} {T : List Tk} {wv : Value} {en : Nat} {w : World} {i d : Nat} {nv : Value} {q : List Qn} (h : Rd base rb T wv en w i (d + 1) nv q) :
    Calls Try.prog 67 #[.pointer (some ⟨rb, 0, none⟩)] w fun e w' => e = .returned (.tuple #[]) ∧ Rd base rb T wv en w' i d nv q ∧ Mv rb w nv q w' nv q := by
  obtain ⟨_, _, _, c3, _⟩ := h.cells
  have f3 := h.row.frozen 3
  have hd30 := h.hd
  obtain ⟨h3, m3⟩ := h.set 3 (.int .i64 (d : Int)) (i' := i) (d' := d) (fun k hk => by
      match k, hk with
      | 0, _ => rfl
      | 1, _ => rfl
      | 2, _ => rfl
      | 3, _ => simp [rdf]
      | 4, _ => rfl) h.hi (by omega) h.hq
  rw [show ((d + 1 : Nat) : Int) = (d : Int) + 1 from by omega] at c3
  have hw : IntKind.i64.wrap ((d : Int) + 1 - 1) = (d : Int) := by rw [IntKind.wrap_i64]; omega
  go_enter Try.func67, Try.ntmps67
  go_wp2
  refine bodyPost_end (results_none rfl _ _ _) rfl ?_
  first | exact ⟨rfl, h3, m3⟩ | (rw [show ((d : Int) + 1 - 1) = (d : Int) from by omega]; exact ⟨rfl, h3, m3⟩)

end Go.Proofs.Ytkdlgglikhbnkac
