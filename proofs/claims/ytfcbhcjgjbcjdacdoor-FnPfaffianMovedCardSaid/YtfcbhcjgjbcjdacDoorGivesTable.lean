/-
  A drawn table is a list of lists in new memory.
-/
import Derived.Test.YtfcbhcjgjbcjdacDoorDrawTable
namespace Go.Proofs.YtfcbhcjgjbcjdacDoor
set_option linter.unusedVariables false
set_option linter.unusedSimpArgs false
open Go.RowKit
def GivesTable (w : World) (e : Ending) (w' : World) : Prop := ∃ v xss, e = .returned v ∧ IntRows w' v xss ∧ Below w.heap.size w w'

end Go.Proofs.YtfcbhcjgjbcjdacDoor
