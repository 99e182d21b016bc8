/- laws.shelves: stores are alive. -/
import Derived.Test.YtifdfelpbonckaaInst2
import Derived.Test.YtifdfelpbonckaaRead2
import Derived.Test.YtifdfelpbonckaaLast2
import Derived.Test.YtifdfelpbonckaaState
namespace Go.Proofs.Ytifdfelpbonckaa
open Go.ChangeShapes Go.WideShapes Go.ChangeAt Go.RowKit Go.Sort Go.Maps
set_option linter.unusedVariables false
set_option maxRecDepth 100000
attribute [local go_sem ↓] Go.wp_at_zero Go.wp_at_succ

theorem row_any (t r v : Int) (w : World) : Calls Try.prog 44 #[.int .i64 t, .int .i64 r, .int .i64 v] w fun e w' => e = .returned (.agg #[.int .i64 t, .int .i64 r, .int .i64 v]) ∧ Below w.heap.size w w' := by
  go_enter Try.func44, Try.ntmps44
  go_wp2
  refine bodyPost_ret (v := .agg #[.int .i64 t, .int .i64 r, .int .i64 v]) (by simp [results, Try.results44, go_sem]) rfl ⟨rfl, ?_⟩
  repeat (first | exact Below.refl _ _ | refine Below.alloc ?_ (by simp) _ | refine Below.setCell ?_ (by simp) _)

theorem OwnR.rows {base : Nat} {w : World} {v : Value} {l : List Rw} (h : OwnR base w v l) (hn : l.length ≤ 1048576) : RowsAt base w.heap.size w v l := by
  rcases h with ⟨rfl, rfl⟩ | ⟨g, cap, f, rfl, h2, h3, h4⟩
  · exact ⟨none, 0, rfl, Nat.zero_le _, fun h => absurd h (Nat.lt_irrefl _)⟩
  · refine ⟨_, _, rfl, by unfold maxLen; omega, fun hp => ⟨g, 0, rfl, h2, h3.lt, fun i hi => ?_⟩⟩
    have g1 := h3.cell (show i * 3 < l.length * 3 by omega)
    have g2 := h3.cell (show i * 3 + 1 < l.length * 3 by omega)
    have g3 := h3.cell (show i * 3 + 2 < l.length * 3 by omega)
    rw [(h4 i hi).1] at g1
    rw [(h4 i hi).2.1] at g2
    rw [(h4 i hi).2.2] at g3
    exact ⟨by simpa using g1, by simpa using g2, by simpa using g3⟩

theorem row_neq (a b c : Int) (w : World) : (binOp .neq 38 (.agg #[.int .i64 a, .int .i64 b, .int .i64 c]) (.agg #[.int .i64 a, .int .i64 b, .int .i64 c])).run Try.prog w = .ok (.bool false) w := by
  simp [go_sem]

theorem sameRows_same (v v' : Value) (l : List Rw) (w : World) {lo hi lo' hi' : Nat} (h : RowsAt lo hi w v l) (h' : RowsAt lo' hi' w v' l) :
    Calls Try.prog 11 #[v, v'] w fun e w' => e = .returned (.bool true) ∧ Below w.heap.size w w' := by
  obtain ⟨a, cap, rfl, hm, hc⟩ := h
  obtain ⟨a', cap', rfl, _, hc'⟩ := h'
  unfold maxLen at hm
  go_enter Try.func11, Try.ntmps11
  go_wp2
  go_loopw [5] (fun i wr => ∃ k : Nat, k ≤ l.length ∧ i = .int .i64 k ∧ Below w.heap.size w wr) (fun i _ => l.length - (intOf i).toNat)
  case atStart => exact ⟨0, Nat.zero_le _, rfl, Below.refl _ _⟩
  case round =>
    rename World => wo
    obtain ⟨k, hk, rfl, hb⟩ := hrel
    by_cases hlt : k < l.length
    · obtain ⟨b, off, rfl, _, _, hcc⟩ := hc (by omega)
      obtain ⟨b', off', rfl, _, _, hcc'⟩ := hc' (by omega)
      obtain ⟨c0, c1, c2⟩ := hcc k hlt
      obtain ⟨d0, d1, d2⟩ := hcc' k hlt
      have k0 := cell_regrown (cell_stays hb c0)
      have k1 := cell_regrown (cell_stays hb c1)
      have k2 := cell_regrown (cell_stays hb c2)
      have k3 := cell_regrown (cell_stays hb d0)
      have k4 := cell_regrown (cell_stays hb d1)
      have k5 := cell_regrown (cell_stays hb d2)
      have hne := row_neq (rAt l k).t (rAt l k).r (rAt l k).v
      have i0 : (0 : Int) ≤ (k : Int) := by omega
      have i1 : (k : Int) < (l.length : Int) := by omega
      clear hcc hc hcc' hc'
      go_wp2_with fail
      refine wp_region_quiet_below (by kernel_rfl) (by kernel_rfl) ?_
      repeat (go_big_quiet_step (fail))
      refine wpQuiet_nil ?_
      intro w5 hw5
      obtain ⟨⟨dq, osq⟩, hw6⟩ := hw5
      have hb5 : Below _ _ w5 := hw6 ▸ below_regrown _ dq osq
      clear hw6
      go_wp2
      go_roundw
      case rel => exact ⟨k + 1, by omega, by go_num, hb.trans (hb5.mono hb.size)⟩
      case measure => simp [intOf]; omega
    · go_wp2
      go_ret
      exact ⟨rfl, hb⟩

/-! ### The one store -/

def r1 : List Rw := [⟨0, 1, 7⟩]
def s1 : List Ch := [⟨0, 1, [(3, 7)]⟩]

theorem wf0 : wf 0 := by decide
theorem wf1 : wf 1 := by decide
theorem lt_one {i : Nat} (h : i < 1) : i = 0 := by omega

theorem lv_r1 (t r : Int) : lv r1 r1.length t r = if t = 0 ∧ r = 1 then some 7 else none := by
  simp [r1, lv, rAt]

theorem listAt_nil (t r : Int) : listAt [] t r = [] := rfl

theorem storeOk_nil : storeOk [] := ⟨by simp, fun i hi => absurd hi (Nat.not_lt_zero _)⟩
theorem args1 : Args [] 3 r1 := by
  refine ⟨storeOk_nil, by decide, by decide, fun t r ht hr v hv => ?_⟩
  rw [lv_r1] at hv
  split at hv
  · rename_i e
    obtain ⟨rfl, rfl⟩ := e
    exact ⟨by decide, by simp [takes, listAt_nil, lastO]⟩
  · cases hv

theorem keys1 {ks : List (Int × Int)} (h : InstKeys [] r1 ks) : ks = [(0, 1)] := by
  obtain ⟨h1, _, h2, h3⟩ := h
  have hall : ∀ x ∈ ks, x = (0, 1) := fun x hx => by
    obtain ⟨w0, w1⟩ := h2 x hx
    have := (h3 x.1 x.2 w0 w1).1 hx
    rw [lv_r1] at this
    rcases this with ⟨i, hi, _⟩ | this
    · exact absurd hi (Nat.not_lt_zero _)
    · by_cases e : x.1 = 0 ∧ x.2 = 1
      · exact Prod.ext e.1 e.2
      · rw [if_neg e] at this; cases this
  have hm : (0, 1) ∈ ks := (h3 0 1 wf0 wf1).2 (.inr (by rw [lv_r1]; rfl))
  match ks, h1, hall, hm with
  | [], _, _, hm => cases hm
  | [x], _, hall, _ => rw [hall x (by simp)]
  | x :: y :: l, h1, hall, _ =>
    have e1 := hall x (by simp)
    have e2 := hall y (by simp)
    simp [e1, e2] at h1

theorem out1 : chainsOf [((0 : Int), (1 : Int))] (instL [] 3 r1) = s1 := by
  simp [chainsOf, instL, lv_r1, listAt_nil, s1]

theorem wf_s1 : WfCh s1 := fun i hi => by
  obtain rfl := lt_one (by simpa [s1] using hi)
  exact ⟨wf0, wf1⟩
theorem storeOk_s1 : storeOk s1 := by
  refine ⟨by simp [s1], fun i hi => ?_⟩
  obtain rfl := lt_one (by simpa [s1] using hi)
  refine ⟨by decide, fun h => absurd h (Nat.lt_irrefl _), by simp [s1, cAt], by simp [s1, cAt], fun k hk => ?_⟩
  obtain rfl := lt_one (by simpa [s1, cAt] using hk)
  exact ⟨by simp [s1, cAt, vAt], by simp [s1, cAt, vAt], fun h => absurd h (Nat.lt_irrefl _)⟩
theorem small_s1 : Small s1 := by
  refine ⟨by simp [s1], fun i hi => ?_⟩
  obtain rfl := lt_one (by simpa [s1] using hi)
  simp [s1, cAt]
theorem last_s1 {h : Int} (hh : 3 ≤ h) : IsLast (cAt s1 0).l h (cAt s1 0).l.length (3, 7) :=
  .inr ⟨0, by simp [s1, cAt], by simp [s1, cAt, vAt], by simpa [s1, cAt, vAt] using hh, fun j h1 h2 => by simp [s1, cAt] at h2; omega⟩
theorem read_s1 : RAns s1 0 1 3 (7, 3) := .inr ⟨⟨storeOk_s1, by decide, by decide⟩, (3, 7), .inr ⟨0, by simp [s1], ⟨rfl, rfl⟩, fun i hi => absurd hi (Nat.not_lt_zero _), last_s1 (by omega)⟩, rfl⟩
theorem read2_s1 : RAns s1 0 1 2 (0, 0) := .inr ⟨⟨storeOk_s1, by decide, by decide⟩, (0, 0), .inr ⟨0, by simp [s1], ⟨rfl, rfl⟩, fun i hi => absurd hi (Nat.not_lt_zero _), .inl ⟨rfl, fun j hj => by
  obtain rfl := lt_one (by simpa [s1, cAt] using hj)
  simp [s1, cAt, vAt]⟩⟩, rfl⟩
theorem lastAt_s1 : LAns s1 0 1 3 := .inr ⟨⟨storeOk_s1, by decide⟩, .inr ⟨0, by simp [s1], ⟨rfl, rfl⟩, fun i hi => absurd hi (Nat.not_lt_zero _), by simp [s1, cAt, vAt]⟩⟩
theorem state_s1 : SAns s1 5 r1 := .inr ⟨⟨storeOk_s1, by decide⟩, [], (3, 7), rfl, last_s1 (by omega), by simp [s1, cAt, r1]⟩

theorem rows1 (w : World) (T : TypeId) : RowsAt w.heap.size (w.heap.size + 1) (w.alloc (Obj.cells #[.int .i64 0, .int .i64 1, .int .i64 7] T)) (.slice (some ⟨w.heap.size, 0, none⟩) 1 1) r1 := by
  refine ⟨_, _, rfl, by simp [r1, maxLen], fun hp => ⟨w.heap.size, 0, rfl, Nat.le_refl _, by omega, fun i hi => ?_⟩⟩
  obtain rfl := lt_one (by simpa [r1] using hi)
  refine ⟨?_, ?_, ?_⟩ <;> simp [r1, rAt]
theorem wf_r1 : WfRw r1 := fun i hi => by
  obtain rfl := lt_one (by simpa [r1] using hi)
  exact ⟨wf0, wf1⟩

set_option maxHeartbeats 2000000 in
theorem shelves_true (w : World) : Calls Try.prog 9 #[] w fun e w' => e = .returned (.bool true) ∧ Below w.heap.size w w' := by
  go_enter Try.func9, Try.ntmps9
  go_wp2_with (go_at_call 44; refine (row_any _ _ _ _).mono ?_; rintro e w1 ⟨rfl, hb1⟩)
  have b1 := hb1.alloc hb1.size (Obj.cells #[Value.int IntKind.i64 0, Value.int IntKind.i64 1, Value.int IntKind.i64 7] 38)
  refine (implInstall_own (.slice none 0 0) [] 3 _ r1 _ (lo := 0) (hi := 0) ⟨none, 0, rfl, Nat.zero_le _, fun h => absurd h (Nat.lt_irrefl _)⟩ (rows1 w1 38) (fun i hi => absurd hi (Nat.not_lt_zero _)) wf_r1 ⟨Nat.zero_le _, fun i hi => absurd hi (Nat.not_lt_zero _)⟩ (by simp [r1])).mono ?_
  rintro e w2 ⟨hI, hb2⟩
  have b2 := b1.trans (hb2.mono b1.size)
  clear b1 hb1 hb2
  rcases hI with ⟨hn, _⟩ | ⟨_, n, ks, hK, rfl, hbig, _⟩ | ⟨_, ks, v', hK, _, rfl, hO⟩
  · exact absurd args1 hn
  · obtain rfl := keys1 hK
    simp at hbig
  obtain rfl := keys1 hK
  rw [out1] at hO
  rcases hO with ⟨_, h0⟩ | ⟨b, Bs, cap, rfl, ho⟩
  · simp [s1] at h0
  have hC := ho.chains (c := cap) small_s1
  have hA := below_alloc w2 (Obj.cells #[Value.slice (some ⟨b, 0, none⟩) s1.length cap] 25)
  have b3 := b2.trans (hA.mono b2.size)
  have x3 : (w2.alloc (Obj.cells #[Value.slice (some ⟨b, 0, none⟩) s1.length cap] 25)).cell? ⟨w2.heap.size, 0, none⟩ = some (.slice (some ⟨b, 0, none⟩) s1.length cap) := by simp [go_sem]
  have hC3 := hC.stays hA
  have h1048 : s1.length ≤ 1048576 := small_s1.1
  clear hK hC ho b2
  go_wp2_with fail
  refine (implReadAt_any _ s1 0 1 3 _ hC3 wf_s1 wf0 wf1 h1048).mono ?_
  rintro e w4 ⟨p, rfl, hp, hb4⟩
  obtain rfl := hp.one read_s1
  have b4 := b3.trans (hb4.mono b3.size)
  have x4 := cell_stays hb4 x3
  have hC4 := hC3.stays hb4
  clear hp hb4 b3 x3 hC3 hA
  go_wp2_with fail
  refine (implReadAt_any _ s1 0 1 2 _ hC4 wf_s1 wf0 wf1 h1048).mono ?_
  rintro e w5 ⟨p, rfl, hp, hb5⟩
  obtain rfl := hp.one read2_s1
  have b5 := b4.trans (hb5.mono b4.size)
  have x5 := cell_stays hb5 x4
  have hC5 := hC4.stays hb5
  clear hp hb5 b4 x4 hC4
  go_wp2_with fail
  refine (implStoreOk_any _ s1 _ hC5).mono ?_
  rintro e w6 ⟨⟨q, rfl, hq⟩, hb6⟩
  obtain rfl := hq.2 storeOk_s1
  have b6 := b5.trans (hb6.mono b5.size)
  have x6 := cell_stays hb6 x5
  have hC6 := hC5.stays hb6
  clear hq hb6 b5 x5 hC5
  go_wp2_with fail
  refine (implLastAt_any _ s1 0 1 _ hC6 wf_s1 wf0 wf1 h1048).mono ?_
  rintro e w7 ⟨x, rfl, hx, hb7⟩
  obtain rfl := hx.one lastAt_s1
  have b7 := b6.trans (hb7.mono b6.size)
  have x7 := cell_stays hb7 x6
  have hC7 := hC6.stays hb7
  clear hx hb7 b6 x6 hC6
  go_wp2_with fail
  refine (implStateAt_any _ s1 5 _ hC7).mono ?_
  rintro e w8 ⟨rs, v8, rfl, hs8, hO8, hb8⟩
  obtain rfl := hs8.one state_s1
  have b8 := b7.trans (hb8.mono b7.size)
  have hR8 := hO8.rows (by simp [r1])
  clear hs8 hb8 b7 x7 hC7 hO8
  go_wp2_with fail
  refine (row_any _ _ _ _).mono ?_
  rintro e w9 ⟨rfl, hb9⟩
  have b9 := b8.trans (hb9.mono b8.size)
  have hA9 := below_alloc w9 (Obj.cells #[Value.int IntKind.i64 0, Value.int IntKind.i64 1, Value.int IntKind.i64 7] 38)
  have b10 := b9.trans (hA9.mono b9.size)
  have hR10 := (hR8.stays hb9).stays hA9
  clear hb9 b8 b9 hR8
  go_wp2_with fail
  refine (sameRows_same _ _ r1 _ hR10 (rows1 w9 38)).mono ?_
  rintro e w11 ⟨rfl, hb11⟩
  have b11 := b10.trans (hb11.mono b10.size)
  clear hb11 b10 hR10 hA9
  go_wp2
  go_ret
  exact ⟨rfl, b11⟩

end Go.Proofs.Ytifdfelpbonckaa
