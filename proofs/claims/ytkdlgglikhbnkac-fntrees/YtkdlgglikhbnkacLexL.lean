/- A text has no more words than bytes. -/
import Derived.Test.YtkdlgglikhbnkacLex8
namespace Go.Proofs.Ytkdlgglikhbnkac
set_option linter.unusedVariables false
set_option maxRecDepth 100000

theorem lexGo_length (s : ByteArray) (i : Nat) (acc : List Tk) (hi : i ≤ s.size) (h : acc.length ≤ i) : (lexGo s i acc).1.length ≤ s.size := by
  by_cases hlt : i < s.size
  · by_cases hw : whiteB (bAt s i) = true
    · rw [lexGo_white hlt hw]
      exact lexGo_length s (i + 1) acc (by omega) (by omega)
    · rw [Bool.not_eq_true] at hw
      cases hat : lexAt s i with
      | none => rw [lexGo_none hlt hw hat]; exact Nat.zero_le _
      | some x =>
        obtain ⟨t, e⟩ := x
        obtain ⟨h1, h2⟩ := lexAt_bounds hlt hat
        rw [lexGo_some hlt hw hat h1]
        exact lexGo_length s e (acc ++ [t]) h2 (by simp; omega)
  · rw [lexGo_end hlt]
    show acc.length ≤ _
    omega
termination_by s.size - i
theorem lexF_length (s : ByteArray) : (lexF s).1.length ≤ 6000 := by
  unfold lexF
  by_cases h : 6000 < s.size
  · rw [if_pos h]; exact Nat.zero_le _
  · rw [if_neg h]
    have := lexGo_length s 0 [] (Nat.zero_le _) (Nat.le_refl _)
    omega

end Go.Proofs.Ytkdlgglikhbnkac
