/-
  How many rows costs have.
-/
import Derived.Test.YtfcbhcjgjbcjdaaDoorCostIn
namespace Go.Proofs.YtfcbhcjgjbcjdaaDoor
set_option linter.unusedVariables false
set_option linter.unusedSimpArgs false
open Go.RowKit

theorem cIn_size {xss : List (List Int)} (h : cIn xss = true) : 1 ≤ xss.length ∧ xss.length ≤ 6 := by
  unfold cIn at h
  rw [Bool.and_eq_true, decide_eq_true_iff] at h
  exact h.2

end Go.Proofs.YtfcbhcjgjbcjdaaDoor
