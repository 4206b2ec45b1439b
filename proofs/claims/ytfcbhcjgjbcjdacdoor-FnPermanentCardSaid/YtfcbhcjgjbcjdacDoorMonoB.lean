/-
  A table made row by row is one.
-/
import Derived.Test.YtfcbhcjgjbcjdacDoorMono
import Derived.Test.YtfcbhcjgjbcjdacDoorMkRows
import Derived.Test.YtfcbhcjgjbcjdacDoorTIn
namespace Go.Proofs.YtfcbhcjgjbcjdacDoor
set_option linter.unusedVariables false
set_option linter.unusedSimpArgs false
open Go.RowKit

theorem mkRows_tIn {n : Nat} {f : Nat → Nat → Int} (h1 : 1 ≤ n) (h6 : n ≤ 6) (hf : ∀ i j, i < n → j < n → -30 ≤ f i j ∧ f i j ≤ 30) : tIn (mkRows n f) = true := by
  have hl : (mkRows n f).length = n := mkRows_len n f
  rw [tIn_yes (fun k hk => ?_)]
  · rw [hl, decide_eq_true_iff]; exact ⟨h1, h6⟩
  · have e : (mkRows n f)[k] = mkRow n f k := by simp [mkRows]
    have hk' : k < n := by rw [hl] at hk; exact hk
    rw [e, hl]
    refine rowT_yes (mkRow_len n f k) fun j hj => ?_
    have hj' : j < n := by rw [mkRow_len] at hj; exact hj
    have e2 : (mkRow n f k)[j] = f k j := by simp [mkRow]
    rw [e2]
    unfold numT
    exact decide_eq_true (hf k j hk' hj')

end Go.Proofs.YtfcbhcjgjbcjdacDoor
