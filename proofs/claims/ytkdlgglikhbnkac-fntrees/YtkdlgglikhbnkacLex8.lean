/- spec.Lex cuts a text into the same words. -/
import Derived.Test.YtkdlgglikhbnkacLex7
namespace Go.Proofs.Ytkdlgglikhbnkac
open Go.ChangeShapes Go.WideShapes Go.ChangeAt Go.RowKit
set_option linter.unusedVariables false
set_option maxRecDepth 100000
attribute [local go_sem ↓] Go.wp_at_zero Go.wp_at_succ
attribute [local go_sem] byte_eq

theorem lexGo_blank (s : ByteArray) (i : Nat) (acc : List Tk) : lexGo s i acc = lexGo s (runTo whiteB s i) acc := by
  by_cases h : i < s.size ∧ whiteB (bAt s i) = true
  · rw [lexGo_white h.1 h.2, runTo_step h.1 h.2, lexGo_blank s (i + 1) acc]
  · rw [runTo_stop h]
termination_by s.size - i

theorem lexAt_bounds {s : ByteArray} {i e : Nat} {t : Tk} (hi : i < s.size) (h : lexAt s i = some (t, e)) : i < e ∧ e ≤ s.size := by
  have r1 := runTo_ge digB s (i + 1)
  have r2 := runTo_le digB s (i + 1) (by omega)
  have r3 := runTo_ge inB s (i + 1)
  have r4 := runTo_le inB s (i + 1) (by omega)
  unfold lexAt at h
  repeat' split at h
  all_goals first
    | (injection h with h; injection h with h1 h2; subst h2; omega)
    | cases h

set_option maxHeartbeats 4000000 in
theorem specLex_any (s : ByteArray) (w : World) :
    Calls Try.prog 17 #[.string s] w (LexRet s w) := by
  obtain ⟨i0, hI, hz0, hz1, hz2⟩ := info_parts infoTok
  by_cases hbig : 6000 < s.size
  · go_enter Try.func17, Try.ntmps17
    go_wp2
    refine bodyPost_ret (v := .tuple #[.slice none 0 0, .int .i64 0]) (by simp [results, Try.results17, go_sem]) rfl ?_
    have hF : lexF s = ([], 0) := by rw [lexF, if_pos hbig]
    exact ⟨_, by rw [hF], by rw [hF]; exact World.ownsRow_nil _ _ _ _, Below.refl _ _⟩
  have hs6 : s.size ≤ 6000 := by omega
  have hF : lexF s = lexGo s 0 [] := by rw [lexF, if_neg hbig]
  go_enter Try.func17, Try.ntmps17
  go_wp2_with fail
  refine (l3blank_any s 0 _ (Nat.zero_le _) hs6).mono ?_
  rintro er w1 ⟨rfl, rfl⟩
  have hw0 : Com s w1 w1 (.slice none 0 0) [] (runTo whiteB s 0) ∧ (runTo whiteB s 0 < s.size → whiteB (bAt s (runTo whiteB s 0)) = false) :=
    ⟨⟨Below.refl _ _, World.ownsRow_nil _ _ _ _, runTo_le _ _ _ (Nat.zero_le _), Nat.zero_le _, (lexGo_blank s 0 []).symm⟩, runTo_end _ _ _⟩
  generalize runTo whiteB s 0 = r0 at hw0 ⊢
  go_wp2
  go_loopw [4, 5] (fun o t wr => ∃ (k : Nat) (l : List Tk), t = .int .i64 (k : Int) ∧ Com s w1 wr o l k ∧ (k < s.size → whiteB (bAt s k) = false)) (fun _ t _ => s.size - (intOf t).toNat)
  case atStart => exact ⟨r0, [], rfl, hw0.1, hw0.2⟩
  case round =>
    clear hw0
    rename World => wo
    obtain ⟨k, l, rfl, hC, hw⟩ := hrel
    obtain ⟨hb, hO, hi, hl, hg⟩ := id hC
    by_cases hlt : k < s.size
    · have hwk := hw hlt
      have n1 : (k : Int) < (s.size : Int) := by omega
      clear hw
      go_wp2_with fail
      refine (l3take_any s k _ hlt hs6).mono ?_
      rintro er w2 ⟨⟨t, to, rfl, hto⟩, hb2⟩
      rcases hto with ⟨hat, rfl⟩ | ⟨e, hat, rfl⟩
      · have hgn : lexGo s 0 [] = ([], (k : Int)) := by rw [← hg, lexGo_none hlt hwk hat]
        unfold tagg
        go_wp2
        refine bodyPost_ret (v := .tuple #[.slice none 0 0, .int .i64 (k : Int)]) (by simp [results, Try.results17, go_sem]) rfl ?_
        exact ⟨_, by rw [hF, hgn], by rw [hF, hgn]; exact World.ownsRow_nil _ _ _ _, (hb.trans (hb2.mono hb.size)).alloc (by have := hb.size; have := hb2.size; omega) _⟩
      · obtain ⟨hke, hes⟩ := lexAt_bounds hlt hat
        have b3 : Below w2.heap.size w2 (w2.alloc (Obj.cells #[.int .i64 t.k, .string t.s, .int .i64 t.n, .int .i64 t.p] 59)) := (Below.refl _ _).alloc (Nat.le_refl _) _
        have hB2 := hb.trans (hb2.mono hb.size)
        have hB3 := hB2.trans (b3.mono hB2.size)
        have hO3 := tok_keep (tok_keep hO hb2) b3
        have c0 : (w2.alloc (Obj.cells #[.int .i64 t.k, .string t.s, .int .i64 t.n, .int .i64 t.p] 59)).cell? ⟨w2.heap.size, 0, none⟩ = some (.int .i64 t.k) := by simp [go_sem]
        have c1 : (w2.alloc (Obj.cells #[.int .i64 t.k, .string t.s, .int .i64 t.n, .int .i64 t.p] 59)).cell? ⟨w2.heap.size, 1, none⟩ = some (.string t.s) := by simp [go_sem]
        have c2 : (w2.alloc (Obj.cells #[.int .i64 t.k, .string t.s, .int .i64 t.n, .int .i64 t.p] 59)).cell? ⟨w2.heap.size, 2, none⟩ = some (.int .i64 t.n) := by simp [go_sem]
        have c3 : (w2.alloc (Obj.cells #[.int .i64 t.k, .string t.s, .int .i64 t.n, .int .i64 t.p] 59)).cell? ⟨w2.heap.size, 3, none⟩ = some (.int .i64 t.p) := by simp [go_sem]
        have ne : ¬ (e : Int) < 0 := by omega
        have hnew : ((w2.alloc (Obj.cells #[.int .i64 t.k, .string t.s, .int .i64 t.n, .int .i64 t.p] 59)).alloc (Obj.cells #[.int .i64 t.k, .string t.s, .int .i64 t.n, .int .i64 t.p] 59)).heap[w2.heap.size + 1]? = some (Obj.cells #[.int .i64 t.k, .string t.s, .int .i64 t.n, .int .i64 t.p] 59) := by
          have h := heap_new (w2.alloc (Obj.cells #[.int .i64 t.k, .string t.s, .int .i64 t.n, .int .i64 t.p] 59)) (Obj.cells #[.int .i64 t.k, .string t.s, .int .i64 t.n, .int .i64 t.p] 59)
          rwa [show (w2.alloc (Obj.cells #[.int .i64 t.k, .string t.s, .int .i64 t.n, .int .i64 t.p] 59)).heap.size = w2.heap.size + 1 from by simp] at h
        have hZ := hB2.size
        unfold tagg
        go_wp2_with (at_builtin; refine wpList_append_lies _ rfl _ _ 45 rfl w1.heap.size 59 i0 _ 4 40 Try.underlying45 hI hz0 hz1 hz2 rfl (by decide) _ l.length (tcells l) rfl (hO3.alloc _) ⟨w2.heap.size + 1, 0, none⟩ 1 1 (tcell t) rfl rfl (World.news_of_block hnew) (by simp [tcell, Value.oneCell']) (by omega) (by unfold maxLen; omega) (by omega) (by simp; omega) (w2.heap.size + 2) (by simp) ?_; intro g7 cap7 w7 hown7 hgrow7 hat7 hlt7)
        have hB7 : Below w1.heap.size w1 w7 := (hB3.alloc hB3.size _).grown hgrow7 (by simp; omega) (fun g hg => (hO3.lt g hg).1)
        have hC7 := hC.snoc hlt hwk hat hke hes hB7 hown7
        clear c0 c1 c2 c3 hnew hown7 hgrow7 hO3 hB3
        go_wp2_with fail
        refine (l3blank_any s e _ hes hs6).mono ?_
        rintro er w8 ⟨rfl, rfl⟩
        have hre := runTo_le whiteB s e hes
        have hrg := runTo_ge whiteB s e
        have hC8 : Com s w1 w8 (.slice (some ⟨g7, 0, none⟩) (l.length + 1) cap7) (l ++ [t]) (runTo whiteB s e) := ⟨hC7.1, hC7.2.1, hre, by have := hC7.2.2.2.1; omega, by rw [← hC7.2.2.2.2, ← lexGo_blank]⟩
        have hwe := runTo_end whiteB s e
        generalize runTo whiteB s e = r at hre hrg hC8 hwe ⊢
        go_wp2
        go_roundw
        case rel => exact ⟨r, _, rfl, hC8, hwe⟩
        case measure => simp [intOf]; omega
    · have hgn : lexGo s 0 [] = (l, -1) := by rw [← hg, lexGo_end hlt]
      obtain ⟨oa, om, oc, rfl⟩ : ∃ oa om oc, u4 = .slice oa om oc := by
        rcases hO.2 with h | ⟨g, cap, cur, h, _⟩
        · exact ⟨_, _, _, h.1⟩
        · exact ⟨_, _, _, h⟩
      go_wp2
      refine bodyPost_ret (v := .tuple #[.slice oa om oc, .int .i64 (-1)]) (by simp [results, Try.results17, go_sem]) rfl ?_
      exact ⟨_, by rw [hF, hgn], by rw [hF, hgn]; exact hO, hb⟩
end Go.Proofs.Ytkdlgglikhbnkac
