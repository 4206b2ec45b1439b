/-
  (graph).cut and (graph).areNeighbours.
-/
import Derived.Test.YtellghhilcjbnaaDoorHas
namespace Go.Proofs.YtellghhilcjbnaaDoor
set_option linter.unusedVariables false
set_option linter.unusedSimpArgs false
open Go.RowKit

/-- The edge of two nodes taken out. -/
def cutE (f : Nat → Nat) (a b : Nat) : Nat → Nat := upd (upd f a (f a &&& (255 - 2 ^ b))) b (upd f a (f a &&& (255 - 2 ^ b)) b &&& (255 - 2 ^ a))

theorem less_lt {s m : Nat} (hs : s < 256) : s &&& m < 256 := Nat.lt_of_le_of_lt Nat.and_le_left hs


end Go.Proofs.YtellghhilcjbnaaDoor
