/-
  A table made row by row: plain lists.
-/
import Derived.Test.YtfcbhcjgjbcjdacDoorFlat
namespace Go.Proofs.YtfcbhcjgjbcjdacDoor
set_option linter.unusedVariables false
set_option linter.unusedSimpArgs false
open Go.RowKit

def mkRow (n : Nat) (f : Nat → Nat → Int) (i : Nat) : List Int := (List.range n).map (f i)
def mkRows (n : Nat) (f : Nat → Nat → Int) : List (List Int) := (List.range n).map (mkRow n f)
theorem mkRow_len (n : Nat) (f : Nat → Nat → Int) (i : Nat) : (mkRow n f i).length = n := by simp [mkRow]
theorem mkRows_len (n : Nat) (f : Nat → Nat → Int) : (mkRows n f).length = n := by simp [mkRows]
theorem mkRows_take (n : Nat) (f : Nat → Nat → Int) {k : Nat} (hk : k < n) : (mkRows n f).take (k + 1) = (mkRows n f).take k ++ [mkRow n f k] := by
  rw [List.take_succ_eq_append_getElem (by rw [mkRows_len]; exact hk)]
  simp [mkRows]
theorem mkRow_take (n : Nat) (f : Nat → Nat → Int) (k : Nat) {i : Nat} (hi : i < n) : (mkRow n f k).take (i + 1) = (mkRow n f k).take i ++ [f k i] := by
  rw [List.take_succ_eq_append_getElem (by rw [mkRow_len]; exact hi)]
  simp [mkRow]
theorem mkRows_flat (n : Nat) (f : Nat → Nat → Int) (h6 : n ≤ 6) {i j : Nat} (hi : i < n) (hj : j < n) : flat (mkRows n f) (6 * i + j) = f i j := by
  have hi' : i < (mkRows n f).length := by rw [mkRows_len]; exact hi
  have e : (mkRows n f)[i] = mkRow n f i := by simp [mkRows]
  rw [flat_at (mkRows n f) hi' (by rw [e, mkRow_len]; exact hj) (by omega)]
  simp [mkRows, mkRow]

end Go.Proofs.YtfcbhcjgjbcjdacDoor
