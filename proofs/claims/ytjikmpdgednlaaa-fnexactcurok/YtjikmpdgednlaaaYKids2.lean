/- The program's kidsOk. -/
import Derived.Test.YtjikmpdgednlaaaYKids
namespace Go.Proofs.Ytjikmpdgednlaaa
open Go.ChangeShapes Go.WideShapes Go.ChangeAt Go.RowKit
set_option linter.unusedVariables false
set_option maxRecDepth 100000
attribute [local go_sem ↓] Go.wp_at_zero Go.wp_at_succ

/-- Are node x's kids as its kind asks? -/
def kidsOkF (l : List Nd) (k : Int) (kids : List Int) : Bool :=
  if k = 0 ∨ k = 1 ∨ k = 25 then hasF l kids []
  else if k = 2 ∨ k = 20 ∨ k = 21 ∨ k = 26 then hasF l kids [1]
  else if (3 ≤ k ∧ k ≤ 9) ∨ k = 22 then hasF l kids [1, 1]
  else if k = 23 then hasF l kids [1, 3] || hasF l kids [1, 3, 3]
  else if k = 24 then hasF l kids [3]
  else if k = 27 then hasF l kids (List.replicate kids.length 2)
  else false

theorem roles0 (w : World) : IntsAt 0 0 w (.slice none 0 0) [] := ⟨_, _, rfl, Nat.zero_le _, fun h => absurd h (Nat.lt_irrefl 0)⟩
theorem roles1 (w : World) (B : Nat) (hB : w.heap.size = B) (T : TypeId) (x : Int) : IntsAt 0 (B + 1) (w.alloc (Obj.cells #[.int .i64 x] T)) (.slice (some ⟨B, 0, none⟩) 1 1) [x] :=
  ⟨_, _, rfl, by show 1 ≤ maxLen; unfold maxLen; omega, fun _ => ⟨_, _, rfl, Nat.zero_le _, Nat.lt_succ_self _, fun i hi => by
    have : i = 0 := by simp at hi; omega
    subst this
    simp [go_sem, iAt, ← hB]⟩⟩
theorem roles2 (w : World) (B : Nat) (hB : w.heap.size = B) (T : TypeId) (x y : Int) : IntsAt 0 (B + 1) (w.alloc (Obj.cells #[.int .i64 x, .int .i64 y] T)) (.slice (some ⟨B, 0, none⟩) 2 2) [x, y] :=
  ⟨_, _, rfl, by show 2 ≤ maxLen; unfold maxLen; omega, fun _ => ⟨_, _, rfl, Nat.zero_le _, Nat.lt_succ_self _, fun i hi => by
    have : i = 0 ∨ i = 1 := by simp at hi; omega
    rcases this with rfl | rfl <;> simp [go_sem, iAt, ← hB]⟩⟩
theorem roles3 (w : World) (B : Nat) (hB : w.heap.size = B) (T : TypeId) (x y z : Int) : IntsAt 0 (B + 1) (w.alloc (Obj.cells #[.int .i64 x, .int .i64 y, .int .i64 z] T)) (.slice (some ⟨B, 0, none⟩) 3 3) [x, y, z] :=
  ⟨_, _, rfl, by show 3 ≤ maxLen; unfold maxLen; omega, fun _ => ⟨_, _, rfl, Nat.zero_le _, Nat.lt_succ_self _, fun i hi => by
    have : i = 0 ∨ i = 1 ∨ i = 2 := by simp at hi; omega
    rcases this with rfl | rfl | rfl <;> simp [go_sem, iAt, ← hB]⟩⟩
theorem Filled.ints {w : World} {g c : Nat} {x : Int} (h : Filled w g c c x) (hc : c ≤ 1048576) : IntsAt 0 (g + 1) w (.slice (some ⟨g, 0, none⟩) c c) (List.replicate c x) :=
  ⟨_, _, by rw [List.length_replicate], by rw [List.length_replicate]; unfold maxLen; omega, fun _ => ⟨_, _, rfl, Nat.zero_le _, Nat.lt_succ_self _, fun i hi => by
    rw [List.length_replicate] at hi
    have := h.cell hi
    have e : (⟨g, 0, none⟩ : Addr).add i = ⟨g, 0 + i, none⟩ := by by_cases h : i = 0 <;> simp [Addr.add, h]
    rw [e] at this
    rw [this]
    simp [iAt, hi]⟩⟩

set_option maxHeartbeats 16000000 in
theorem kidsOk_any (a : Option Addr) (c : Nat) (l : List Nd) (K : Int) (s : ByteArray) (n : Int) (ka : Option Addr) (m kc : Nat) (kids : List Int) (w : World) {lo hi : Nat} (h : NodesAt lo hi w (.slice a l.length c) l) (hk : IntsAt lo hi w (.slice ka m kc) kids) (hm : m = kids.length) (hml : m ≤ 1048576)
    (hin : ∀ j, j < kids.length → 0 ≤ iAt kids j ∧ iAt kids j < (l.length : Int)) :
    Calls Try.prog 64 #[.agg #[.int .i64 K, .string s, .int .i64 n, .slice ka m kc, .slice a l.length c]] w fun e w' => e = .returned (.bool (kidsOkF l K kids)) ∧ Below w.heap.size w w' := by
  have bA : Below w.heap.size w (w.alloc (Obj.cells #[.int .i64 K, .string s, .int .i64 n, .slice ka m kc, .slice a l.length c] 100)) := (Below.refl _ _).alloc (Nat.le_refl _) _
  have y0 : (w.alloc (Obj.cells #[.int .i64 K, .string s, .int .i64 n, .slice ka m kc, .slice a l.length c] 100)).cell? ⟨w.heap.size, 0, none⟩ = some (.int .i64 K) := by simp [go_sem]
  have y1 : (w.alloc (Obj.cells #[.int .i64 K, .string s, .int .i64 n, .slice ka m kc, .slice a l.length c] 100)).cell? ⟨w.heap.size, 1, none⟩ = some (.string s) := by simp [go_sem]
  have y2 : (w.alloc (Obj.cells #[.int .i64 K, .string s, .int .i64 n, .slice ka m kc, .slice a l.length c] 100)).cell? ⟨w.heap.size, 1 + 1, none⟩ = some (.int .i64 n) := by simp [go_sem]
  have y3 : (w.alloc (Obj.cells #[.int .i64 K, .string s, .int .i64 n, .slice ka m kc, .slice a l.length c] 100)).cell? ⟨w.heap.size, 1 + 1 + 1, none⟩ = some (.slice ka m kc) := by simp [go_sem]
  have y4 : (w.alloc (Obj.cells #[.int .i64 K, .string s, .int .i64 n, .slice ka m kc, .slice a l.length c] 100)).cell? ⟨w.heap.size, 1 + 1 + 1 + 1, none⟩ = some (.slice a l.length c) := by simp [go_sem]
  have hN := h.stays bA
  have hK := hk.stays bA
  change Hid _ at hm
  obtain ⟨TOP, hTOP⟩ : ∃ r, kidsOkF l K kids = r := ⟨_, rfl⟩
  rw [hTOP]
  change Hid _ at hTOP
  have has : ∀ (R : List Int) (ra : Option Addr) (rn rc : Nat) (w' : World) (lo2 hi2 : Nat), Below (w.alloc (Obj.cells #[.int .i64 K, .string s, .int .i64 n, .slice ka m kc, .slice a l.length c] 100)).heap.size (w.alloc (Obj.cells #[.int .i64 K, .string s, .int .i64 n, .slice ka m kc, .slice a l.length c] 100)) w' → IntsAt lo2 hi2 w' (.slice ra rn rc) R → rn = R.length → Calls Try.prog 78 #[.agg #[.int .i64 K, .string s, .int .i64 n, .slice ka m kc, .slice a l.length c], .slice ra rn rc] w' fun e w'' => e = .returned (.bool (hasF l kids R)) ∧ Below w'.heap.size w' w'' :=
    fun R ra rn rc w' lo2 hi2 hb hR hrn => hasKids_any a c l K s n ka m kc kids ra rc R rn w' (hN.stays hb) (hK.stays hb) hm.out hR hrn hin
  by_cases k0 : K = 0
  · subst k0
    have e : TOP = hasF l kids [] := hTOP.out.symm.trans (by simp [kidsOkF])
    clear hTOP
    subst e
    go_enter Try.func64, Try.ntmps64
    go_wp2_with (go_at_call 78; refine (has [] _ _ _ _ _ _ (Below.refl _ _) (roles0 _) rfl).mono ?_; rintro e w2 ⟨rfl, hb2⟩)
    go_ret
    exact ⟨rfl, bA.trans (hb2.mono bA.size)⟩
  by_cases k1 : K = 1
  · subst k1
    have e : TOP = hasF l kids [] := hTOP.out.symm.trans (by simp [kidsOkF])
    clear hTOP
    subst e
    go_enter Try.func64, Try.ntmps64
    go_wp2_with (go_at_call 78; refine (has [] _ _ _ _ _ _ (Below.refl _ _) (roles0 _) rfl).mono ?_; rintro e w2 ⟨rfl, hb2⟩)
    go_ret
    exact ⟨rfl, bA.trans (hb2.mono bA.size)⟩
  by_cases k25 : K = 25
  · subst k25
    have e : TOP = hasF l kids [] := hTOP.out.symm.trans (by simp [kidsOkF])
    clear hTOP
    subst e
    go_enter Try.func64, Try.ntmps64
    go_wp2_with (go_at_call 78; refine (has [] _ _ _ _ _ _ (Below.refl _ _) (roles0 _) rfl).mono ?_; rintro e w2 ⟨rfl, hb2⟩)
    go_ret
    exact ⟨rfl, bA.trans (hb2.mono bA.size)⟩
  by_cases k2 : K = 2
  · subst k2
    have e : TOP = hasF l kids [1] := hTOP.out.symm.trans (by simp [kidsOkF])
    clear hTOP
    subst e
    go_enter Try.func64, Try.ntmps64
    go_wp2_with (go_at_call 78; refine (has [1] _ _ _ _ _ _ ((Below.refl _ _).alloc (Nat.le_refl _) _) (roles1 _ _ (by simp) _ _) rfl).mono ?_; rintro e w2 ⟨rfl, hb2⟩)
    go_ret
    exact ⟨rfl, (bA.trans (((Below.refl _ _).alloc (Nat.le_refl _) _).mono bA.size)).trans (hb2.mono (by simp; omega))⟩
  by_cases k20 : K = 20
  · subst k20
    have e : TOP = hasF l kids [1] := hTOP.out.symm.trans (by simp [kidsOkF])
    clear hTOP
    subst e
    go_enter Try.func64, Try.ntmps64
    go_wp2_with (go_at_call 78; refine (has [1] _ _ _ _ _ _ ((Below.refl _ _).alloc (Nat.le_refl _) _) (roles1 _ _ (by simp) _ _) rfl).mono ?_; rintro e w2 ⟨rfl, hb2⟩)
    go_ret
    exact ⟨rfl, (bA.trans (((Below.refl _ _).alloc (Nat.le_refl _) _).mono bA.size)).trans (hb2.mono (by simp; omega))⟩
  by_cases k21 : K = 21
  · subst k21
    have e : TOP = hasF l kids [1] := hTOP.out.symm.trans (by simp [kidsOkF])
    clear hTOP
    subst e
    go_enter Try.func64, Try.ntmps64
    go_wp2_with (go_at_call 78; refine (has [1] _ _ _ _ _ _ ((Below.refl _ _).alloc (Nat.le_refl _) _) (roles1 _ _ (by simp) _ _) rfl).mono ?_; rintro e w2 ⟨rfl, hb2⟩)
    go_ret
    exact ⟨rfl, (bA.trans (((Below.refl _ _).alloc (Nat.le_refl _) _).mono bA.size)).trans (hb2.mono (by simp; omega))⟩
  by_cases k26 : K = 26
  · subst k26
    have e : TOP = hasF l kids [1] := hTOP.out.symm.trans (by simp [kidsOkF])
    clear hTOP
    subst e
    go_enter Try.func64, Try.ntmps64
    go_wp2_with (go_at_call 78; refine (has [1] _ _ _ _ _ _ ((Below.refl _ _).alloc (Nat.le_refl _) _) (roles1 _ _ (by simp) _ _) rfl).mono ?_; rintro e w2 ⟨rfl, hb2⟩)
    go_ret
    exact ⟨rfl, (bA.trans (((Below.refl _ _).alloc (Nat.le_refl _) _).mono bA.size)).trans (hb2.mono (by simp; omega))⟩
  by_cases k3 : K = 3
  · subst k3
    have e : TOP = hasF l kids [1, 1] := hTOP.out.symm.trans (by simp [kidsOkF])
    clear hTOP
    subst e
    go_enter Try.func64, Try.ntmps64
    go_wp2_with (go_at_call 78; refine (has [1, 1] _ _ _ _ _ _ ((Below.refl _ _).alloc (Nat.le_refl _) _) (roles2 _ _ (by simp) _ _ _) rfl).mono ?_; rintro e w2 ⟨rfl, hb2⟩)
    go_ret
    exact ⟨rfl, (bA.trans (((Below.refl _ _).alloc (Nat.le_refl _) _).mono bA.size)).trans (hb2.mono (by simp; omega))⟩
  by_cases k4 : K = 4
  · subst k4
    have e : TOP = hasF l kids [1, 1] := hTOP.out.symm.trans (by simp [kidsOkF])
    clear hTOP
    subst e
    go_enter Try.func64, Try.ntmps64
    go_wp2_with (go_at_call 78; refine (has [1, 1] _ _ _ _ _ _ ((Below.refl _ _).alloc (Nat.le_refl _) _) (roles2 _ _ (by simp) _ _ _) rfl).mono ?_; rintro e w2 ⟨rfl, hb2⟩)
    go_ret
    exact ⟨rfl, (bA.trans (((Below.refl _ _).alloc (Nat.le_refl _) _).mono bA.size)).trans (hb2.mono (by simp; omega))⟩
  by_cases k5 : K = 5
  · subst k5
    have e : TOP = hasF l kids [1, 1] := hTOP.out.symm.trans (by simp [kidsOkF])
    clear hTOP
    subst e
    go_enter Try.func64, Try.ntmps64
    go_wp2_with (go_at_call 78; refine (has [1, 1] _ _ _ _ _ _ ((Below.refl _ _).alloc (Nat.le_refl _) _) (roles2 _ _ (by simp) _ _ _) rfl).mono ?_; rintro e w2 ⟨rfl, hb2⟩)
    go_ret
    exact ⟨rfl, (bA.trans (((Below.refl _ _).alloc (Nat.le_refl _) _).mono bA.size)).trans (hb2.mono (by simp; omega))⟩
  by_cases k6 : K = 6
  · subst k6
    have e : TOP = hasF l kids [1, 1] := hTOP.out.symm.trans (by simp [kidsOkF])
    clear hTOP
    subst e
    go_enter Try.func64, Try.ntmps64
    go_wp2_with (go_at_call 78; refine (has [1, 1] _ _ _ _ _ _ ((Below.refl _ _).alloc (Nat.le_refl _) _) (roles2 _ _ (by simp) _ _ _) rfl).mono ?_; rintro e w2 ⟨rfl, hb2⟩)
    go_ret
    exact ⟨rfl, (bA.trans (((Below.refl _ _).alloc (Nat.le_refl _) _).mono bA.size)).trans (hb2.mono (by simp; omega))⟩
  by_cases k7 : K = 7
  · subst k7
    have e : TOP = hasF l kids [1, 1] := hTOP.out.symm.trans (by simp [kidsOkF])
    clear hTOP
    subst e
    go_enter Try.func64, Try.ntmps64
    go_wp2_with (go_at_call 78; refine (has [1, 1] _ _ _ _ _ _ ((Below.refl _ _).alloc (Nat.le_refl _) _) (roles2 _ _ (by simp) _ _ _) rfl).mono ?_; rintro e w2 ⟨rfl, hb2⟩)
    go_ret
    exact ⟨rfl, (bA.trans (((Below.refl _ _).alloc (Nat.le_refl _) _).mono bA.size)).trans (hb2.mono (by simp; omega))⟩
  by_cases k8 : K = 8
  · subst k8
    have e : TOP = hasF l kids [1, 1] := hTOP.out.symm.trans (by simp [kidsOkF])
    clear hTOP
    subst e
    go_enter Try.func64, Try.ntmps64
    go_wp2_with (go_at_call 78; refine (has [1, 1] _ _ _ _ _ _ ((Below.refl _ _).alloc (Nat.le_refl _) _) (roles2 _ _ (by simp) _ _ _) rfl).mono ?_; rintro e w2 ⟨rfl, hb2⟩)
    go_ret
    exact ⟨rfl, (bA.trans (((Below.refl _ _).alloc (Nat.le_refl _) _).mono bA.size)).trans (hb2.mono (by simp; omega))⟩
  by_cases k9 : K = 9
  · subst k9
    have e : TOP = hasF l kids [1, 1] := hTOP.out.symm.trans (by simp [kidsOkF])
    clear hTOP
    subst e
    go_enter Try.func64, Try.ntmps64
    go_wp2_with (go_at_call 78; refine (has [1, 1] _ _ _ _ _ _ ((Below.refl _ _).alloc (Nat.le_refl _) _) (roles2 _ _ (by simp) _ _ _) rfl).mono ?_; rintro e w2 ⟨rfl, hb2⟩)
    go_ret
    exact ⟨rfl, (bA.trans (((Below.refl _ _).alloc (Nat.le_refl _) _).mono bA.size)).trans (hb2.mono (by simp; omega))⟩
  by_cases k22 : K = 22
  · subst k22
    have e : TOP = hasF l kids [1, 1] := hTOP.out.symm.trans (by simp [kidsOkF])
    clear hTOP
    subst e
    go_enter Try.func64, Try.ntmps64
    go_wp2_with (go_at_call 78; refine (has [1, 1] _ _ _ _ _ _ ((Below.refl _ _).alloc (Nat.le_refl _) _) (roles2 _ _ (by simp) _ _ _) rfl).mono ?_; rintro e w2 ⟨rfl, hb2⟩)
    go_ret
    exact ⟨rfl, (bA.trans (((Below.refl _ _).alloc (Nat.le_refl _) _).mono bA.size)).trans (hb2.mono (by simp; omega))⟩
  by_cases k24 : K = 24
  · subst k24
    have e : TOP = hasF l kids [3] := hTOP.out.symm.trans (by simp [kidsOkF])
    clear hTOP
    subst e
    go_enter Try.func64, Try.ntmps64
    go_wp2_with (go_at_call 78; refine (has [3] _ _ _ _ _ _ ((Below.refl _ _).alloc (Nat.le_refl _) _) (roles1 _ _ (by simp) _ _) rfl).mono ?_; rintro e w2 ⟨rfl, hb2⟩)
    go_ret
    exact ⟨rfl, (bA.trans (((Below.refl _ _).alloc (Nat.le_refl _) _).mono bA.size)).trans (hb2.mono (by simp; omega))⟩
  by_cases k23 : K = 23
  · subst k23
    have e : TOP = (hasF l kids [1, 3] || hasF l kids [1, 3, 3]) := hTOP.out.symm.trans (by simp [kidsOkF])
    clear hTOP
    cases h1 : hasF l kids [1, 3] with
    | true =>
      rw [h1, Bool.true_or] at e
      subst e
      go_enter Try.func64, Try.ntmps64
      go_wp2_with (go_at_call 78; refine (has [1, 3] _ _ _ _ _ _ ((Below.refl _ _).alloc (Nat.le_refl _) _) (roles2 _ _ (by simp) _ _ _) rfl).mono ?_; rw [h1]; rintro e w2 ⟨rfl, hb2⟩)
      go_ret
      exact ⟨rfl, (bA.trans (((Below.refl _ _).alloc (Nat.le_refl _) _).mono bA.size)).trans (hb2.mono (by simp; omega))⟩
    | false =>
      rw [h1, Bool.false_or] at e
      subst e
      go_enter Try.func64, Try.ntmps64
      go_wp2_with (first | (have hZZ := hbX; go_at_call 78; refine (has [1, 3, 3] _ _ _ _ _ _ (hbX.alloc hbX.size _) (roles3 _ _ rfl _ _ _ _) rfl).mono ?_; rintro e w3 ⟨rfl, hb3⟩) | (go_at_call 78; refine (has [1, 3] _ _ _ _ _ _ ((Below.refl _ _).alloc (Nat.le_refl _) _) (roles2 _ _ (by simp) _ _ _) rfl).mono ?_; rw [h1]; rintro e w2 ⟨rfl, hb2⟩; have hbX : Below (w.alloc (Obj.cells #[.int .i64 23, .string s, .int .i64 n, .slice ka m kc, .slice a l.length c] 100)).heap.size (w.alloc (Obj.cells #[.int .i64 23, .string s, .int .i64 n, .slice ka m kc, .slice a l.length c] 100)) w2 := ((Below.refl _ _).alloc (Nat.le_refl _) _).trans (hb2.mono (by simp)); have u0 := cell_stays hbX y0; have u1 := cell_stays hbX y1; have u2 := cell_stays hbX y2; have u3 := cell_stays hbX y3; have u4 := cell_stays hbX y4))
      go_ret
      exact ⟨rfl, (bA.trans ((hbX.alloc hbX.size _).mono bA.size)).trans (hb3.mono (by simp; have := hbX.size; simp at this; omega))⟩
  by_cases k27 : K = 27
  · subst k27
    have e : TOP = hasF l kids (List.replicate m 2) := hTOP.out.symm.trans (by simp [kidsOkF, hm.out])
    clear hTOP
    subst e
    have hzA : (w.alloc (Obj.cells #[.int .i64 27, .string s, .int .i64 n, .slice ka m kc, .slice a l.length c] 100)).heap.size = w.heap.size + 1 := by simp
    go_enter Try.func64, Try.ntmps64
    go_wp2_with fail
    generalize hwA : (w.alloc (Obj.cells #[.int .i64 27, .string s, .int .i64 n, .slice ka m kc, .slice a l.length c] 100)) = wA at *
    have S0 : ∀ x, Below wA.heap.size wA x → x.cell? ⟨w.heap.size, 0, none⟩ = some (.int .i64 27) ∧ x.cell? ⟨w.heap.size, 1, none⟩ = some (.string s) ∧ x.cell? ⟨w.heap.size, 1 + 1, none⟩ = some (.int .i64 n) ∧ x.cell? ⟨w.heap.size, 1 + 1 + 1, none⟩ = some (.slice ka m kc) ∧ x.cell? ⟨w.heap.size, 1 + 1 + 1 + 1, none⟩ = some (.slice a l.length c) := fun x hx => ⟨cell_stays hx y0, cell_stays hx y1, cell_stays hx y2, cell_stays hx y3, cell_stays hx y4⟩
    have bD := (Below.refl wA.heap.size wA).drew
    refine region_last (fun x => x.cell? ⟨w.heap.size, 0, none⟩ = some (.int .i64 27) ∧ x.cell? ⟨w.heap.size, 1, none⟩ = some (.string s) ∧ x.cell? ⟨w.heap.size, 1 + 1, none⟩ = some (.int .i64 n) ∧ x.cell? ⟨w.heap.size, 1 + 1 + 1, none⟩ = some (.slice ka m kc) ∧ x.cell? ⟨w.heap.size, 1 + 1 + 1 + 1, none⟩ = some (.slice a l.length c)) (by kernel_rfl) (by kernel_rfl) (by kernel_rfl) (S0 _ bD) (fun hHeld => ?_)
    simp only [List.dropLast, List.length_cons, List.length_nil, Nat.reduceAdd]
    refine takeL (i := 0) (v := ?_) rfl (by kernel_rfl) (by kernel_rfl) (by kernel_rfl) (fun _ _ _ h => h) rfl (by assumption) ?_ ?_
    rotate_left
    · (intro wS hSw; (try dsimp only at hSw); go_simp; try with_reducible rfl)
    (try simp only [Act.put, List.setIfInBounds_toArray, List.set_cons_zero, List.set_cons_succ])
    refine takeL (i := 2) (v := ?_) rfl (by kernel_rfl) (by kernel_rfl) (by kernel_rfl) (fun _ _ _ h => h) rfl (by assumption) ?_ ?_
    rotate_left
    · (intro wS hSw; (try dsimp only at hSw); go_simp; try with_reducible rfl)
    (try simp only [Act.put, List.setIfInBounds_toArray, List.set_cons_zero, List.set_cons_succ])
    refine takeL (i := 3) (v := ?_) rfl (by kernel_rfl) (by kernel_rfl) (by kernel_rfl) (fun _ _ _ h => h) rfl (by assumption) ?_ ?_
    rotate_left
    · (intro wS hSw; (try dsimp only at hSw); go_simp; try with_reducible rfl)
    (try simp only [Act.put, List.setIfInBounds_toArray, List.set_cons_zero, List.set_cons_succ])
    refine takeL (i := 4) (v := ?_) rfl (by kernel_rfl) (by kernel_rfl) (by kernel_rfl) (fun _ _ _ h => h) rfl (by assumption) ?_ ?_
    rotate_left
    · (intro wS hSw; (try dsimp only at hSw); go_simp; try with_reducible rfl)
    (try simp only [Act.put, List.setIfInBounds_toArray, List.set_cons_zero, List.set_cons_succ])
    refine takeL (i := 5) (v := ?_) rfl (by kernel_rfl) (by kernel_rfl) (by kernel_rfl) (fun _ _ _ h => h) rfl (by assumption) ?_ ?_
    rotate_left
    · (intro wS hSw; (try dsimp only at hSw); go_simp; try with_reducible rfl)
    (try simp only [Act.put, List.setIfInBounds_toArray, List.set_cons_zero, List.set_cons_succ])
    refine stepL (i := 1) rfl (by kernel_rfl) (fun K hK => ?_)
    rw [if_pos (by rfl)]
    go_simp
    have bX : Below wA.heap.size wA (wA.alloc (Obj.cells #[.int .i64 2] 117)).drew := ((Below.refl wA.heap.size wA).alloc (Nat.le_refl _) _).drew
    have cX : (wA.alloc (Obj.cells #[.int .i64 2] 117)).drew.cell? ⟨w.heap.size + 1, 0, none⟩ = some (.int .i64 2) := by rw [← hzA]; simp [go_sem]
    refine hK.out _ _ (S0 _ bX) (fun hHeld2 => ?_)
    clear hK K hHeld
    (try simp only [Act.put, List.setIfInBounds_toArray, List.set_cons_zero, List.set_cons_succ])
    refine stepL (i := 6) rfl (by kernel_rfl) (fun K hK => ?_)
    rw [if_pos (by rfl)]
    go_simp
    go_at_call 79
    refine Calls.mono (repeat_any 2 (w.heap.size + 1) 1 m hml _ cX) ?_
    rintro e w2 ⟨⟨g, rfl, hF⟩, hb2⟩
    have b2 : Below wA.heap.size wA w2 := bX.trans (hb2.mono bX.size)
    (try simp only [])
    refine hK.out _ _ (S0 _ b2) (fun hHeld3 => ?_)
    clear hK K hHeld2
    (try simp only [Act.put, List.setIfInBounds_toArray, List.set_cons_zero, List.set_cons_succ])
    refine stepL (i := 7) rfl (by kernel_rfl) (fun K hK => ?_)
    rw [if_pos (by rfl)]
    go_simp
    go_at_call 78
    refine Calls.mono (has (List.replicate m 2) _ m m w2 _ _ b2 (hF.ints hml) (by rw [List.length_replicate])) ?_
    rintro e w3 ⟨rfl, hb3⟩
    have b3 : Below wA.heap.size wA w3 := b2.trans (hb3.mono b2.size)
    (try simp only [])
    refine hK.out _ _ (S0 _ b3) (fun hHeld4 => ?_)
    clear hK K hHeld3
    (try simp only [Act.put, List.setIfInBounds_toArray, List.set_cons_zero, List.set_cons_succ])
    refine wpAnyH_done (by kernel_rfl) ?_ _
    refine lastL (n := 8) rfl rfl ?_
    go_simp
    go_wp2
    go_ret
    exact ⟨rfl, bA.trans (b3.mono bA.size)⟩
  have q0 := beq_eq_false_iff_ne.2 k0
  have q1 := beq_eq_false_iff_ne.2 k1
  have q25 := beq_eq_false_iff_ne.2 k25
  have q2 := beq_eq_false_iff_ne.2 k2
  have q20 := beq_eq_false_iff_ne.2 k20
  have q21 := beq_eq_false_iff_ne.2 k21
  have q26 := beq_eq_false_iff_ne.2 k26
  have q3 := beq_eq_false_iff_ne.2 k3
  have q4 := beq_eq_false_iff_ne.2 k4
  have q5 := beq_eq_false_iff_ne.2 k5
  have q6 := beq_eq_false_iff_ne.2 k6
  have q7 := beq_eq_false_iff_ne.2 k7
  have q8 := beq_eq_false_iff_ne.2 k8
  have q9 := beq_eq_false_iff_ne.2 k9
  have q22 := beq_eq_false_iff_ne.2 k22
  have q24 := beq_eq_false_iff_ne.2 k24
  have q23 := beq_eq_false_iff_ne.2 k23
  have q27 := beq_eq_false_iff_ne.2 k27
  have e : TOP = false := hTOP.out.symm.trans (by rw [kidsOkF, if_neg (by omega), if_neg (by omega), if_neg (by omega), if_neg k23, if_neg k24, if_neg k27])
  clear hTOP
  subst e
  go_enter Try.func64, Try.ntmps64
  go_wp2
  go_ret
  exact ⟨rfl, bA⟩

end Go.Proofs.Ytjikmpdgednlaaa
