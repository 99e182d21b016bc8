/- A frame of a run: may it stand, and within which other one; the program's frameOk. -/
import Derived.Test.YtjikmpdgednlaaaZCnt
import Derived.Test.YtjikmpdgednlaaaTSetAt
import Derived.Test.YtjikmpdgednlaaaSays
import Derived.Test.YtjikmpdgednlaaaData
import Derived.Lib.QuietBelow
import Derived.Deep.QuietTactic
import Derived.BigQuiet
namespace Go.Proofs.Ytjikmpdgednlaaa
open Go.ChangeShapes Go.WideShapes Go.ChangeAt Go.RowKit
set_option linter.unusedVariables false
set_option maxRecDepth 100000
attribute [local go_sem ↓] Go.wp_at_zero Go.wp_at_succ

/-- The node of a frame. -/
def ndF (l : List Nd) (f : Vr) : Nd := ndAt l f.1.toNat
/-- How much of a block or a loop has been begun. -/
def frIn (l : List Nd) (f : Vr) : Prop := 0 ≤ f.2 ∧ (((ndF l f).k = 27 ∧ f.2 ≤ ((ndF l f).kids.length : Int)) ∨ ((ndF l f).k = 24 ∧ f.2 ≤ (ndF l f).n))
/-- A frame by itself. -/
def frOk (l : List Nd) (f : Vr) : Prop := 0 ≤ f.1 ∧ f.1 < (l.length : Int) ∧ frIn l f
/-- The statement of a block that was begun last. -/
def begF (l : List Nd) (f : Vr) : Int := iAt (ndF l f).kids (f.2 - 1).toNat
/-- One frame is within another. -/
def underF (l : List Nd) (a : Vr) (b : Int) : Prop :=
  ((ndF l a).k = 24 ∧ b = iAt (ndF l a).kids 0) ∨ ((ndF l a).k = 27 ∧ 1 ≤ a.2 ∧ (b = begF l a ∨ ((ndAt l (begF l a).toNat).k = 23 ∧ ∃ i, 1 ≤ i ∧ i < (ndAt l (begF l a).toNat).kids.length ∧ iAt (ndAt l (begF l a).toNat).kids i = b)))

theorem containsI_any (v : Value) (l : List Int) (x : Int) (w : World) {lo hi : Nat} (h : IntsAt lo hi w v l) :
    Calls Try.prog 73 #[v, .int .i64 x] w fun e w' => Says e (∃ i, i < l.length ∧ iAt l i = x) ∧ Below w.heap.size w w' := by
  obtain ⟨a, cap, rfl, hm, hc⟩ := h
  unfold maxLen at hm
  have hI : Calls Try.prog 84 #[.slice a l.length cap, .int .i64 x] w fun e w' => w' = w ∧ ((∃ m : Nat, e = .returned (.int .i64 (m : Int)) ∧ m < l.length ∧ iAt l m = x) ∨ (e = .returned (.int .i64 (-1)) ∧ ∀ m, m < l.length → iAt l m ≠ x)) := by
    go_enter Try.func84, Try.ntmps84
    go_wp2
    go_loopw [8] (fun t8 wr => ∃ m : Nat, t8 = .int .i64 (m : Int) ∧ m ≤ l.length ∧ wr = w ∧ ∀ j, j < m → iAt l j ≠ x) (fun t8 _ => l.length - (intOf t8).toNat)
    case atStart => exact ⟨0, rfl, Nat.zero_le _, rfl, fun j hj => absurd hj (Nat.not_lt_zero _)⟩
    case round =>
      rename World => wo
      obtain ⟨m, rfl, hm', rfl, hall⟩ := hrel
      by_cases hlt : m < l.length
      · obtain ⟨b, off, rfl, hlo, hhi, hcc⟩ := hc (by omega)
        have c0 := hcc m hlt
        have m0 : (0 : Int) ≤ (m : Int) := by omega
        have m1 : (m : Int) < (l.length : Int) := by omega
        clear hcc hc
        by_cases hx : iAt l m = x
        · have hd : (x == iAt l m) = true := by simpa using hx.symm
          change Hid _ at hx
          clear hall
          go_wp2
          go_ret
          exact ⟨rfl, .inl ⟨m, rfl, hlt, hx.out⟩⟩
        · have hd : (x == iAt l m) = false := by simpa using Ne.symm hx
          have hall2 : Hid (∀ j, j < m + 1 → iAt l j ≠ x) := upto_succ hall hx
          clear hall hx
          go_wp2
          go_roundw
          case rel => exact ⟨m + 1, by go_num, by omega, trivial, hall2.out⟩
          case measure => simp [intOf]; omega
      · change Hid _ at hall
        go_wp2
        go_ret
        exact ⟨rfl, .inr ⟨rfl, fun j hj => hall.out j (by omega)⟩⟩
  go_enter Try.func73, Try.ntmps73
  go_wp2_with fail
  refine hI.mono ?_
  rintro e w1 ⟨rfl, ⟨m, rfl, h1, h2⟩ | ⟨rfl, h1⟩⟩
  · have m0 : (0 : Int) ≤ (m : Int) := by omega
    change Hid _ at h2
    go_wp2
    go_ret
    exact ⟨says_yes ⟨m, h1, h2.out⟩, Below.refl _ _⟩
  · change Hid _ at h1
    go_wp2
    go_ret
    exact ⟨says_no fun ⟨m, h2, h3⟩ => h1.out m h2 h3, Below.refl _ _⟩

set_option maxHeartbeats 2000000 in
theorem frameOk_any (a : Option Addr) (c : Nat) (l : List Nd) (f1 f2 : Int) (w : World) {lo hi : Nat} (h : NodesAt lo hi w (.slice a l.length c) l) :
    Calls Try.prog 46 #[.slice a l.length c, .agg #[.int .i64 f1, .int .i64 f2]] w fun e w' => Says e (frOk l (f1, f2)) ∧ Below w.heap.size w w' := by
  have bA : ∀ o : Obj, Below w.heap.size w (w.alloc o) := fun o => (Below.refl _ _).alloc (Nat.le_refl _) o
  obtain ⟨P, hP⟩ : ∃ P : Prop, frOk l (f1, f2) = P := ⟨_, rfl⟩
  rw [hP]
  change Hid _ at hP
  by_cases h0 : f1 < 0
  · go_enter Try.func46, Try.ntmps46
    go_wp2
    go_ret
    exact ⟨says_no fun hh => by have := (hP.out.symm ▸ hh : frOk l (f1, f2)).1; simp at this; omega, bA _⟩
  by_cases h1 : (l.length : Int) ≤ f1
  · go_enter Try.func46, Try.ntmps46
    go_wp2
    go_ret
    exact ⟨says_no fun hh => by have := (hP.out.symm ▸ hh : frOk l (f1, f2)).2.1; simp at this; omega, bA _⟩
  obtain ⟨i, rfl⟩ : ∃ i : Nat, f1 = (i : Int) := ⟨f1.toNat, by omega⟩
  have hi' : i < l.length := by omega
  obtain ⟨a1, c1, e1, hm1, hcc⟩ := id h
  cases e1
  obtain ⟨nb, off, rfl, hlo, hhi, hcl⟩ := hcc (by omega)
  obtain ⟨n0, n1, n2, ka, kc, n3, Ki⟩ := hcl i hi'
  have i0 : (0 : Int) ≤ (i : Int) := by omega
  have i1 : (i : Int) < (l.length : Int) := by omega
  have hiff : frOk l ((i : Int), f2) ↔ (0 ≤ f2 ∧ (((ndAt l i).k = 27 ∧ f2 ≤ ((ndAt l i).kids.length : Int)) ∨ ((ndAt l i).k = 24 ∧ f2 ≤ (ndAt l i).n))) := by
    simp only [frOk, frIn, ndF, Int.toNat_natCast]
    constructor
    · exact fun hh => hh.2.2
    · exact fun hh => ⟨i0, i1, hh⟩
  have HP : Hid (P ↔ (0 ≤ f2 ∧ (((ndAt l i).k = 27 ∧ f2 ≤ ((ndAt l i).kids.length : Int)) ∨ ((ndAt l i).k = 24 ∧ f2 ≤ (ndAt l i).n)))) := hP.out ▸ hiff
  clear hcc hcl hiff Ki hP
  have m0 := fun o => cell_stays (bA o) n0
  have m1 := fun o => cell_stays (bA o) n1
  have m2 := fun o => cell_stays (bA o) n2
  have m3 := fun o => cell_stays (bA o) n3
  generalize ndAt l i = x at *
  obtain ⟨k, s, n, kids⟩ := x
  simp only at *
  by_cases h27 : k = 27
  · by_cases hf : 0 ≤ f2
    · by_cases hg : f2 ≤ (kids.length : Int)
      · go_enter Try.func46, Try.ntmps46
        go_wp2
        go_ret
        exact ⟨says_yes (HP.out.2 ⟨hf, .inl ⟨h27, hg⟩⟩), by first | exact (bA _).alloc (by simp) _ | go_grown⟩
      · go_enter Try.func46, Try.ntmps46
        go_wp2
        go_ret
        exact ⟨says_no fun hh => by rcases (HP.out.1 hh).2 with h | h <;> omega, by first | exact (bA _).alloc (by simp) _ | go_grown⟩
    · go_enter Try.func46, Try.ntmps46
      go_wp2
      go_ret
      exact ⟨says_no fun hh => by have := (HP.out.1 hh).1; omega, by first | exact (bA _).alloc (by simp) _ | go_grown⟩
  by_cases h24 : k = 24
  · by_cases hf : 0 ≤ f2
    · by_cases hg : f2 ≤ n
      · go_enter Try.func46, Try.ntmps46
        go_wp2
        go_ret
        exact ⟨says_yes (HP.out.2 ⟨hf, .inr ⟨h24, hg⟩⟩), by first | exact (bA _).alloc (by simp) _ | go_grown⟩
      · go_enter Try.func46, Try.ntmps46
        go_wp2
        go_ret
        exact ⟨says_no fun hh => by rcases (HP.out.1 hh).2 with h | h <;> omega, by first | exact (bA _).alloc (by simp) _ | go_grown⟩
    · go_enter Try.func46, Try.ntmps46
      go_wp2
      go_ret
      exact ⟨says_no fun hh => by have := (HP.out.1 hh).1; omega, by first | exact (bA _).alloc (by simp) _ | go_grown⟩
  · go_enter Try.func46, Try.ntmps46
    go_wp2
    go_ret
    exact ⟨says_no fun hh => by rcases (HP.out.1 hh).2 with h | h <;> omega, by first | exact (bA _).alloc (by simp) _ | go_grown⟩

end Go.Proofs.Ytjikmpdgednlaaa
