/- The small parts of the scanner: white bytes, signs, kinds of names, numbers, pieces of texts. -/
import Derived.Test.YtkdlgglikhbnkacLex0
import Derived.Laws.IdiomStrings
namespace Go.Proofs.Ytkdlgglikhbnkac
open Go.ChangeShapes Go.WideShapes Go.ChangeAt Go.RowKit
set_option linter.unusedVariables false
set_option maxRecDepth 100000
attribute [local go_sem ↓] Go.wp_at_zero Go.wp_at_succ
attribute [local go_sem] byte_eq

def whiteB (b : Int) : Bool := decide (b = 32 ∨ b = 9 ∨ b = 10)
def signB (b : Int) : Bool := decide (b = 123 ∨ b = 125 ∨ b = 40 ∨ b = 41 ∨ b = 91 ∨ b = 93 ∨ b = 59 ∨ b = 44 ∨ b = 61 ∨ b = 60 ∨ b = 43 ∨ b = 45 ∨ b = 42 ∨ b = 47 ∨ b = 37)

theorem isWhite_any (b : Int) (w : World) :
    Calls Try.prog 27 #[.int .u8 b] w fun e w' => e = .returned (.bool (whiteB b)) ∧ w' = w := by
  by_cases h1 : b = 32
  · subst h1
    go_enter Try.func27, Try.ntmps27
    go_wp2
    go_ret
    exact ⟨rfl, rfl⟩
  have h1' : (b == 32) = false := by simpa using h1
  by_cases h2 : b = 9
  · subst h2
    go_enter Try.func27, Try.ntmps27
    go_wp2
    go_ret
    exact ⟨rfl, rfl⟩
  have h2' : (b == 9) = false := by simpa using h2
  by_cases h3 : b = 10
  · subst h3
    go_enter Try.func27, Try.ntmps27
    go_wp2
    go_ret
    exact ⟨rfl, rfl⟩
  have h3' : (b == 10) = false := by simpa using h3
  have e : whiteB b = false := by simp [whiteB, h1, h2, h3]
  rw [e]
  clear h1 h2 h3 e
  go_enter Try.func27, Try.ntmps27
  go_wp2
  go_ret
  exact ⟨rfl, rfl⟩

theorem isSign_any (b : Int) (w : World) :
    Calls Try.prog 32 #[.int .u8 b] w fun e w' => e = .returned (.bool (signB b)) ∧ w' = w := by
  go_enter Try.func32, Try.ntmps32
  go_wp2
  all_goals (go_ret; simp_all [signB])

theorem nameKind_any (s : ByteArray) (w : World) :
    Calls Try.prog 35 #[.string s] w fun e w' => e = .returned (.int .i64 (if wordB s.toList = true then 3 else 2)) ∧ w' = w := by
  go_enter Try.func35, Try.ntmps35
  go_wp2_with fail
  refine (implIsWord_any s _).mono ?_
  rintro e w1 ⟨rfl, rfl⟩
  by_cases h : wordB s.toList = true
  · go_wp2
    go_ret
    exact ⟨by first | rfl | simp [h], rfl⟩
  · have e : (if wordB s.toList = true then (3 : Int) else 2) = 2 := if_neg h
    rw [Bool.not_eq_true] at h
    go_wp2
    all_goals (go_ret; first | exact ⟨by rw [e]; rfl, rfl⟩ | exact ⟨rfl, rfl⟩ | simp_all)

/-- The number that n digits from i on make. -/
def numAt (s : ByteArray) (i : Nat) : Nat → Int
  | 0 => 0
  | n + 1 => numAt s i n * 10 + (bAt s (i + n) - 48)
theorem numAt_bound {s : ByteArray} {i : Nat} : ∀ {n : Nat}, (∀ j, j < n → digB (bAt s (i + j)) = true) → 0 ≤ numAt s i n ∧ numAt s i n < 10 ^ n
  | 0, _ => by simp [numAt]
  | n + 1, h => by
    have ih := numAt_bound (s := s) (i := i) (n := n) (fun j hj => h j (by omega))
    have hd := h n (by omega)
    simp only [digB, decide_eq_true_eq] at hd
    have e : (10 : Int) ^ (n + 1) = 10 * 10 ^ n := by rw [Int.pow_succ]; omega
    rw [e]
    simp only [numAt]
    omega
theorem numAt_le {s : ByteArray} {i n : Nat} (hn : n ≤ 9) (h : ∀ j, j < n → digB (bAt s (i + j)) = true) : 0 ≤ numAt s i n ∧ numAt s i n < 1000000000 := by
  have b := numAt_bound h
  have : (10 : Int) ^ n ≤ 10 ^ 9 := by
    have : n = 0 ∨ n = 1 ∨ n = 2 ∨ n = 3 ∨ n = 4 ∨ n = 5 ∨ n = 6 ∨ n = 7 ∨ n = 8 ∨ n = 9 := by omega
    rcases this with rfl | rfl | rfl | rfl | rfl | rfl | rfl | rfl | rfl | rfl <;> decide
  have e : (10 : Int) ^ 9 = 1000000000 := by decide
  omega

set_option maxHeartbeats 1000000 in
theorem numberOf_any (s : ByteArray) (w : World) (hn : s.size ≤ 9) (hd : ∀ j, j < s.size → digB (bAt s j) = true) :
    Calls Try.prog 33 #[.string s] w fun e w' => e = .returned (.int .i64 (numAt s 0 s.size)) ∧ w' = w := by
  go_enter Try.func33, Try.ntmps33
  go_wp2
  go_loop [3, 7] (fun n i => ∃ k : Nat, k ≤ s.size ∧ i = .int .i64 k ∧ n = .int .i64 (numAt s 0 k)) (fun n i => s.size - (intOf i).toNat)
  case atStart => exact ⟨0, Nat.zero_le _, rfl, rfl⟩
  case round =>
    obtain ⟨k, hk, rfl, rfl⟩ := hrel
    have hb := numAt_le (s := s) (i := 0) (n := k) (by omega) (fun j hj => by rw [Nat.zero_add]; exact hd j (by omega))
    by_cases hlt : k < s.size
    · have n0 : (0 : Int) ≤ (k : Int) := by omega
      have n1 : (k : Int) < (s.size : Int) := by omega
      have hdk := hd k hlt
      simp only [digB, decide_eq_true_eq] at hdk
      have hb2 := numAt_le (s := s) (i := 0) (n := k + 1) (by omega) (fun j hj => by rw [Nat.zero_add]; exact hd j (by omega))
      simp only [numAt, Nat.zero_add] at hb2
      go_wp2
      go_round
      case rel =>
        refine ⟨k + 1, by omega, by go_num, ?_⟩
        simp only [numAt, Nat.zero_add]
      case measure => simp [intOf]; omega
    · have hkk : k = s.size := by omega
      subst hkk
      go_wp2
      go_ret
      exact ⟨rfl, rfl⟩

theorem extract_size {s : ByteArray} {i j : Nat} (hij : i ≤ j) (hj : j ≤ s.size) : (s.extract i j).size = j - i := by
  rw [ByteArray.size_extract]
  omega
theorem extract_list {s : ByteArray} {i j : Nat} (hij : i ≤ j) (hj : j ≤ s.size) : (s.extract i j).data.toList = (s.data.toList.drop i).take (j - i) := by
  obtain ⟨⟨l⟩⟩ := s
  rw [ByteArray.extract_mk]
theorem extract_at {s : ByteArray} {i j k : Nat} (hij : i ≤ j) (hj : j ≤ s.size) (hk : k < j - i) : bAt (s.extract i j) k = bAt s (i + k) := by
  unfold bAt
  rw [extract_list hij hj]
  congr 2
  simp [List.getD, hk]

theorem bytes_back (x : ByteArray) (w : World) (cap : Nat) : (convert 22 9 (.slice (some ⟨w.heap.size, 0, none⟩) x.size cap)).run Try.prog (w.alloc (Obj.cells (bytesRow x cap) 5 ((bytesRow x cap).size, (bytesRow x cap).size + 1))).drew = .ok (.string x) (w.alloc (Obj.cells (bytesRow x cap) 5 ((bytesRow x cap).size, (bytesRow x cap).size + 1))).drew := by
  have hb := run_convert_bytes_back (P := Try.prog) (w.alloc (Obj.cells (bytesRow x cap) 5 ((bytesRow x cap).size, (bytesRow x cap).size + 1))).drew 22 9 5 ⟨w.heap.size, 0, none⟩ cap x.data.toList Try.underlying22 Try.underlying5 Try.underlying9 (fun k hk => by
    have hk' : k < x.data.size := hk
    show (w.alloc _).cell? (Addr.add ⟨w.heap.size, 0, none⟩ k) = _
    have ea : Addr.add ⟨w.heap.size, 0, none⟩ k = ⟨w.heap.size, k, none⟩ := by
      unfold Addr.add
      split
      · next h => subst h; rfl
      · simp
    rw [ea, World.cell?_alloc_mark, bytesRow_at _ _ _ hk']
    simp)
  exact hb

theorem textOf_any (s : ByteArray) (i j : Nat) (w : World) (hij : i ≤ j) (hj : j ≤ s.size) :
    Calls Try.prog 31 #[.string s, .int .i64 i, .int .i64 j] w fun e w' => e = .returned (.string (s.extract i j)) ∧ Below w.heap.size w w' := by
  have n0 : (0 : Int) ≤ (i : Int) := by omega
  have n1 : (i : Int) ≤ (j : Int) := by omega
  have n2 : (j : Int) ≤ (s.size : Int) := by omega
  have hconv := run_bytes_of_string (P := Try.prog) w 9 22 5 (s.extract i j) Try.underlying9 Try.underlying22 Try.underlying5
  generalize grownCap w (s.extract i j).size 0 5 = cap at hconv
  have hz := extract_size hij hj
  have hback := bytes_back (s.extract i j) w cap
  rw [hz] at hback
  rw [hz] at hconv
  generalize bytesRow (s.extract i j) cap = C at hconv hback
  clear hz
  go_enter Try.func31, Try.ntmps31
  go_wp2
  go_ret
  exact ⟨rfl, ((Below.refl _ _).alloc (Nat.le_refl _) _).drew⟩
end Go.Proofs.Ytkdlgglikhbnkac
