/-
  The square of the Pfaffian.
-/
import Derived.Test.YtfcbhcjgjbcjdacDoorMonoPf
import Derived.Test.YtfcbhcjgjbcjdacDoorImplTDet
namespace Go.Proofs.YtfcbhcjgjbcjdacDoor
set_option linter.unusedVariables false
set_option linter.unusedSimpArgs false
open Go.RowKit

theorem pf_square {xss : List (List Int)} (h : skewOf xss = true) : pfOf xss * pfOf xss = detOf xss := by
  have ht := skewOf_in h
  obtain ⟨h1, h6, _⟩ := tIn_facts ht
  unfold pfOf detOf
  rw [if_pos h, if_pos ht]
  exact mates_square (by omega) h1 (skew_all h)

end Go.Proofs.YtfcbhcjgjbcjdacDoor
