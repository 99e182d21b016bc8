/- Words held against words: eqTok, eqTokS. -/
import Derived.Test.YtahbfmhdkcoboalLexT
namespace Go.Proofs.Ytahbfmhdkcoboal
open Go.ChangeShapes Go.WideShapes Go.ChangeAt Go.RowKit
set_option linter.unusedVariables false
set_option maxRecDepth 100000
attribute [local go_sem ↓] Go.wp_at_zero Go.wp_at_succ

theorem ToksIn.stays {w w' : World} {g : Nat} {l : List Tk} (h : ToksIn w g l) (hb : Below w.heap.size w w') (hg : g < w.heap.size) : ToksIn w' g l := fun i hi => by
  obtain ⟨h1, h2, h3, h4⟩ := h i hi
  refine ⟨?_, ?_, ?_, ?_⟩
  all_goals (rw [hb.cell (by exact hg)]; assumption)

/-- The slice v holds the words l. -/
def TokV (w : World) (v : Value) (l : List Tk) : Prop := ∃ a cap, v = .slice a l.length cap ∧ l.length ≤ 6000 ∧ (0 < l.length → ∃ g, a = some ⟨g, 0, none⟩ ∧ g < w.heap.size ∧ ToksIn w g l)
theorem TokV.stays {w w' : World} {v : Value} {l : List Tk} (h : TokV w v l) (hb : Below w.heap.size w w') : TokV w' v l := by
  obtain ⟨a, cap, h1, h2, h3⟩ := h
  refine ⟨a, cap, h1, h2, fun hp => ?_⟩
  obtain ⟨g, h4, h5, h6⟩ := h3 hp
  exact ⟨g, h4, Nat.lt_of_lt_of_le h5 hb.size, h6.stays hb h5⟩
theorem tokV_of_owns {w : World} {base : Nat} {v : Value} {l : List Tk} (h : w.ownsRow base 36 4 v l.length (tcells l)) (hl : l.length ≤ 6000) : TokV w v l := by
  by_cases hp : 0 < l.length
  · obtain ⟨g, cap, rfl, _, hg, hT⟩ := toks_of_owns h hp
    exact ⟨_, _, rfl, hl, fun _ => ⟨g, rfl, hg, hT⟩⟩
  · obtain ⟨a, n, c, rfl, e⟩ : ∃ a n c, v = .slice a n c ∧ n = l.length := by
      rcases h.2 with ⟨h1, h2⟩ | ⟨g, cap, cur, h1, _⟩
      · exact ⟨_, _, _, h1, h2.symm⟩
      · exact ⟨_, _, _, h1, rfl⟩
    subst e
    exact ⟨_, _, rfl, hl, fun h => absurd h hp⟩

theorem eqTok_same (t : Tk) (w : World) :
    Calls Try.prog 34 #[.agg #[.int .i64 t.k, .string t.s, .int .i64 t.n, .int .i64 t.p], .agg #[.int .i64 t.k, .string t.s, .int .i64 t.n, .int .i64 t.p]] w fun e w' => e = .returned (.bool true) ∧ Below w.heap.size w w' := by
  go_enter Try.func34, Try.ntmps34
  go_wp2
  go_ret
  exact ⟨rfl, ((Below.refl _ _).alloc (Nat.le_refl _) _).alloc (by simp) _⟩

set_option maxHeartbeats 2000000 in
theorem eqTokS_same (v v' : Value) (l : List Tk) (w : World) (h : TokV w v l) (h' : TokV w v' l) :
    Calls Try.prog 18 #[v, v'] w fun e w' => e = .returned (.bool true) ∧ Below w.heap.size w w' := by
  obtain ⟨a, cap, rfl, hn, hT⟩ := id h
  obtain ⟨a', cap', rfl, _, hT'⟩ := id h'
  go_enter Try.func18, Try.ntmps18
  go_wp2
  go_loopw [5] (fun t wr => ∃ k : Nat, k ≤ l.length ∧ t = .int .i64 (k : Int) ∧ Below w.heap.size w wr) (fun t _ => l.length - (intOf t).toNat)
  case atStart => exact ⟨0, Nat.zero_le _, rfl, Below.refl _ _⟩
  case round =>
    rename World => wo
    obtain ⟨k, hk, rfl, hb⟩ := hrel
    by_cases hlt : k < l.length
    · obtain ⟨g, rfl, hg, hI⟩ := hT (by omega)
      obtain ⟨g', rfl, hg', hI'⟩ := hT' (by omega)
      obtain ⟨x0, x1, x2, x3⟩ := (hI.stays hb hg) k hlt
      obtain ⟨y0, y1, y2, y3⟩ := (hI'.stays hb hg') k hlt
      have k0 : (0 : Int) ≤ (k : Int) := by omega
      have k1 : (k : Int) < (l.length : Int) := by omega
      clear hT hT' hI hI'
      have hz := hb.size
      have hgo : g < wo.heap.size := by omega
      have hgo' : g' < wo.heap.size := by omega
      have S0 : ∀ x, Below wo.heap.size wo x → x.cell? ⟨g, k * 4, none⟩ = some (.int .i64 (tkAt l k).k) ∧ x.cell? ⟨g, k * 4 + 1, none⟩ = some (.string (tkAt l k).s) ∧ x.cell? ⟨g, k * 4 + 1 + 1, none⟩ = some (.int .i64 (tkAt l k).n) ∧ x.cell? ⟨g, k * 4 + 1 + 1 + 1, none⟩ = some (.int .i64 (tkAt l k).p) ∧ x.cell? ⟨g', k * 4, none⟩ = some (.int .i64 (tkAt l k).k) ∧ x.cell? ⟨g', k * 4 + 1, none⟩ = some (.string (tkAt l k).s) ∧ x.cell? ⟨g', k * 4 + 1 + 1, none⟩ = some (.int .i64 (tkAt l k).n) ∧ x.cell? ⟨g', k * 4 + 1 + 1 + 1, none⟩ = some (.int .i64 (tkAt l k).p) := fun x hx => by
        refine ⟨?_, ?_, ?_, ?_, ?_, ?_, ?_, ?_⟩
        all_goals (rw [hx.cell (by first | exact hgo | exact hgo')]; assumption)
      clear x0 x1 x2 x3 y0 y1 y2 y3
      go_wp2_with fail
      refine region_last (fun x => x.cell? ⟨g, k * 4, none⟩ = some (.int .i64 (tkAt l k).k) ∧ x.cell? ⟨g, k * 4 + 1, none⟩ = some (.string (tkAt l k).s) ∧ x.cell? ⟨g, k * 4 + 1 + 1, none⟩ = some (.int .i64 (tkAt l k).n) ∧ x.cell? ⟨g, k * 4 + 1 + 1 + 1, none⟩ = some (.int .i64 (tkAt l k).p) ∧ x.cell? ⟨g', k * 4, none⟩ = some (.int .i64 (tkAt l k).k) ∧ x.cell? ⟨g', k * 4 + 1, none⟩ = some (.string (tkAt l k).s) ∧ x.cell? ⟨g', k * 4 + 1 + 1, none⟩ = some (.int .i64 (tkAt l k).n) ∧ x.cell? ⟨g', k * 4 + 1 + 1 + 1, none⟩ = some (.int .i64 (tkAt l k).p)) (by kernel_rfl) (by kernel_rfl) (by kernel_rfl) (S0 _ (Below.refl _ _).drew) (fun hHeld => ?_)
      simp only [List.dropLast, List.length_cons, List.length_nil, Nat.reduceAdd]
      refine takeL (i := 0) (v := ?_) rfl (by kernel_rfl) (by kernel_rfl) (by kernel_rfl) (fun _ _ _ h => h) rfl (by assumption) ?_ ?_
      rotate_left
      · (intro wS hSw; (try dsimp only at hSw); go_simp; try with_reducible rfl)
      (try simp only [Act.put, List.setIfInBounds_toArray, List.set_cons_zero, List.set_cons_succ])
      refine takeL (i := 1) (v := ?_) rfl (by kernel_rfl) (by kernel_rfl) (by kernel_rfl) (fun _ _ _ h => h) rfl (by assumption) ?_ ?_
      rotate_left
      · (intro wS hSw; (try dsimp only at hSw); go_simp; try with_reducible rfl)
      (try simp only [Act.put, List.setIfInBounds_toArray, List.set_cons_zero, List.set_cons_succ])
      refine takeL (i := 2) (v := ?_) rfl (by kernel_rfl) (by kernel_rfl) (by kernel_rfl) (fun _ _ _ h => h) rfl (by assumption) ?_ ?_
      rotate_left
      · (intro wS hSw; (try dsimp only at hSw); go_simp; try with_reducible rfl)
      (try simp only [Act.put, List.setIfInBounds_toArray, List.set_cons_zero, List.set_cons_succ])
      refine takeL (i := 3) (v := ?_) rfl (by kernel_rfl) (by kernel_rfl) (by kernel_rfl) (fun _ _ _ h => h) rfl (by assumption) ?_ ?_
      rotate_left
      · (intro wS hSw; (try dsimp only at hSw); go_simp; try with_reducible rfl)
      (try simp only [Act.put, List.setIfInBounds_toArray, List.set_cons_zero, List.set_cons_succ])
      refine takeL (i := 4) (v := ?_) rfl (by kernel_rfl) (by kernel_rfl) (by kernel_rfl) (fun _ _ _ h => h) rfl (by assumption) ?_ ?_
      rotate_left
      · (intro wS hSw; (try dsimp only at hSw); go_simp; try with_reducible rfl)
      (try simp only [Act.put, List.setIfInBounds_toArray, List.set_cons_zero, List.set_cons_succ])
      refine takeL (i := 5) (v := ?_) rfl (by kernel_rfl) (by kernel_rfl) (by kernel_rfl) (fun _ _ _ h => h) rfl (by assumption) ?_ ?_
      rotate_left
      · (intro wS hSw; (try dsimp only at hSw); go_simp; try with_reducible rfl)
      (try simp only [Act.put, List.setIfInBounds_toArray, List.set_cons_zero, List.set_cons_succ])
      refine takeL (i := 6) (v := ?_) rfl (by kernel_rfl) (by kernel_rfl) (by kernel_rfl) (fun _ _ _ h => h) rfl (by assumption) ?_ ?_
      rotate_left
      · (intro wS hSw; (try dsimp only at hSw); go_simp; try with_reducible rfl)
      (try simp only [Act.put, List.setIfInBounds_toArray, List.set_cons_zero, List.set_cons_succ])
      refine takeL (i := 7) (v := ?_) rfl (by kernel_rfl) (by kernel_rfl) (by kernel_rfl) (fun _ _ _ h => h) rfl (by assumption) ?_ ?_
      rotate_left
      · (intro wS hSw; (try dsimp only at hSw); go_simp; try with_reducible rfl)
      (try simp only [Act.put, List.setIfInBounds_toArray, List.set_cons_zero, List.set_cons_succ])
      refine stepL (i := 8) rfl (by kernel_rfl) (fun K hK => ?_)
      rw [if_pos (by rfl)]
      go_simp
      refine (eqTok_same (tkAt l k) _).mono ?_
      rintro er w2 ⟨rfl, hb2⟩
      have b2 : Below wo.heap.size wo w2 := (Below.refl _ _).drew.trans hb2
      refine hK.out _ _ (S0 _ b2) (fun hHeld2 => ?_)
      clear hK K hHeld
      (try simp only [Act.put, List.setIfInBounds_toArray, List.set_cons_zero, List.set_cons_succ])
      refine wpAnyH_done (by kernel_rfl) ?_ _
      refine lastL (n := 9) rfl rfl ?_
      go_simp
      clear hHeld2 S0
      go_wp2
      go_roundw
      case rel => exact ⟨k + 1, by omega, by go_num, hb.trans (b2.mono hb.size)⟩
      case measure => simp [intOf]; omega
    · go_wp2
      go_ret
      exact ⟨rfl, hb⟩
end Go.Proofs.Ytahbfmhdkcoboal
