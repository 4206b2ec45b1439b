/-
  What a list, a number and true leave.
-/
import Derived.Test.YtellghhilcjbnaaDoorCore1
namespace Go.Proofs.YtellghhilcjbnaaDoor
set_option linter.unusedVariables false
set_option linter.unusedSimpArgs false
open Go.RowKit

def GivesIntsN (w : World) (ok : Bool) (xs : List Int) (r : Int) (e : Ending) (w' : World) : Prop :=
  ∃ v, e = .returned (.tuple #[v, .int .i64 r, .bool ok]) ∧ Below w.heap.size w w' ∧ Owns w' w.heap.size v xs

end Go.Proofs.YtellghhilcjbnaaDoor
