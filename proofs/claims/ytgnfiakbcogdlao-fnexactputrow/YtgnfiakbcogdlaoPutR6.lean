/- spec.PutRow. -/
import Derived.Test.YtgnfiakbcogdlaoPutR5
namespace Go.Proofs.Ytgnfiakbcogdlao
open Go.ChangeShapes Go.WideShapes Go.ChangeAt Go.RowKit Go.Sort Go.Maps Go.Deep Go.Joins
set_option linter.unusedVariables false
set_option maxRecDepth 100000
attribute [local go_sem ↓] Go.wp_at_zero Go.wp_at_succ

set_option maxHeartbeats 1000000 in
theorem specPutRow_any (va : Value) (l : List Rw) (t r v : Int) (w : World) {lo hi : Nat} (h : RowsAt lo hi w va l) (hw : WfRw l) (hn : l.length ≤ 1048576) (hhi : hi ≤ w.heap.size) (ht : wf t) (hr : wf r) :
    Calls Try.prog 9 #[va, .agg #[.int .i64 t, .int .i64 r], .int .i64 v] w fun e w' => PAns w.heap.size w' l t r v e ∧ Below w.heap.size w w' := by
  obtain ⟨a, cap, hv⟩ : ∃ a cap, va = .slice a l.length cap := by obtain ⟨a, cap, h1, _⟩ := h; exact ⟨a, cap, h1⟩
  subst hv
  have b0 : Below w.heap.size w (w.alloc (Obj.cells #[Value.int IntKind.i64 t, Value.int IntKind.i64 r] 29)) := (Below.refl _ _).alloc (Nat.le_refl _) _
  go_enter Try.func9, Try.ntmps9
  go_wp2_with fail
  refine (specRowsOk_any _ l _ (h.stays b0)).mono ?_
  rintro e w1 ⟨⟨q, rfl, hq⟩, hb1⟩
  have b1 := b0.trans (hb1.mono b0.size)
  have x0 : w1.cell? ⟨w.heap.size, 0, none⟩ = some (.int .i64 t) := cell_stays hb1 (by simp [go_sem])
  have x1 : w1.cell? ⟨w.heap.size, 1, none⟩ = some (.int .i64 r) := cell_stays hb1 (by simp [go_sem])
  clear hb1 b0
  by_cases hok : rowsOk' l
  · obtain rfl : q = true := hq.2 hok
    clear hq
    go_wp2_with fail
    refine (l1table_any _ _ _).mono ?_
    rintro e w2 ⟨rfl, hb2⟩
    have b2 := b1.trans (hb2.mono b1.size)
    have y0 := cell_stays hb2 x0
    have y1 := cell_stays hb2 x1
    clear x0 x1 hb2 b1
    by_cases htab : tabB t = true
    · have HT : Hid (tabB t = true) := htab
      rw [htab]
      clear htab
      have hz := b2.size
      go_wp2_with fail
      refine (l6putRow_any _ l t r v _ (h.stays b2) hn (by omega)).mono ?_
      rintro e w3 ⟨v3, rfl, hown, hb3⟩
      go_wp2
      go_ret
      exact ⟨⟨_, _, rfl, .inl ⟨hok, HT.out, putGo_is hok hw ht hr v⟩, putGo_len _ _ _, OwnR.of_ownsRow (hown.mono hz)⟩, b2.trans (hb3.mono b2.size)⟩
    · have htab' : tabB t = false := by simpa using htab
      rw [htab']
      go_wp2
      go_ret
      exact ⟨⟨_, [], rfl, .inr ⟨fun hh => htab hh.2, rfl⟩, Nat.zero_le _, .inl ⟨rfl, rfl⟩⟩, b2⟩
  · obtain rfl : q = false := says_false hq hok
    clear hq
    go_wp2
    go_ret
    exact ⟨⟨_, [], rfl, .inr ⟨fun hh => hok hh.1, rfl⟩, Nat.zero_le _, .inl ⟨rfl, rfl⟩⟩, b1⟩

/-- Both answers to the same question are the same rows. -/
theorem put_one {l rs rs' : List Rw} {t r v : Int} (h : (rowsOk' l ∧ tabB t = true ∧ RowsOf (updM (fun t r => rowOfF t r l) t r v) rs) ∨ (¬ (rowsOk' l ∧ tabB t = true) ∧ rs = [])) (h' : (rowsOk' l ∧ tabB t = true ∧ RowsOf (updM (fun t r => rowOfF t r l) t r v) rs') ∨ (¬ (rowsOk' l ∧ tabB t = true) ∧ rs' = [])) : rs' = rs := by
  rcases h with ⟨a1, a2, a3⟩ | ⟨a1, rfl⟩ <;> rcases h' with ⟨b1, b2, b3⟩ | ⟨b1, rfl⟩
  · exact b3.one a3
  · exact absurd ⟨a1, a2⟩ b1
  · exact absurd ⟨b1, b2⟩ a1
  · rfl
end Go.Proofs.Ytgnfiakbcogdlao
