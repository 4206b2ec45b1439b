/-
  ONE BIT OF A SET, AS THE TESTS READ IT: plain functions, no walk.
-/
import Derived.Test.YtellghhilcjbnaaDoorCore1
namespace Go.Proofs.YtellghhilcjbnaaDoor
set_option linter.unusedVariables false
set_option linter.unusedSimpArgs false
open Go.RowKit

theorem shr_is (s v : Nat) (hs : s < 256) (r : Bool) (h : s.testBit v = r) : (bits .and .i64 ((s : Int) / 2 ^ v) 1 == 1) = r ∧ (bits .and .i64 ((s : Int) / 2 ^ v) 1 == 0) = !r := by
  have e : ((s : Int) / 2 ^ v) = ((s / 2 ^ v : Nat) : Int) := by push_cast; rfl
  have hlt : s / 2 ^ v < 256 := Nat.lt_of_le_of_lt (Nat.div_le_self _ _) hs
  rw [e, show (1 : Int) = ((1 : Nat) : Int) from rfl, and64 _ _ (by omega) (by omega), Nat.and_one_is_mod]
  rw [Nat.testBit_eq_decide_div_mod_eq] at h
  subst h
  rcases Nat.mod_two_eq_zero_or_one (s / 2 ^ v) with h0 | h1
  · rw [h0]; decide
  · rw [h1]; decide
theorem bit0_is (s : Nat) (hs : s < 256) (r : Bool) (h : s.testBit 0 = r) : (bits .and .i64 (s : Int) 1 == 1) = r := by
  have := (shr_is s 0 hs r h).1
  simpa using this

end Go.Proofs.YtellghhilcjbnaaDoor
