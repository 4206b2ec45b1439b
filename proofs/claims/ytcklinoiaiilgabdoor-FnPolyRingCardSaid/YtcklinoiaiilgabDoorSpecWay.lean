/-
  spec.l1Way links each node and the next one, in a new slice.
-/
import Derived.Test.YtcklinoiaiilgabDoorSets

import Derived.Test.YtcklinoiaiilgabDoorLinks
namespace Go.Proofs.YtcklinoiaiilgabDoor
set_option linter.unusedVariables false
set_option linter.unusedSimpArgs false
open Go.RowKit

end Go.Proofs.YtcklinoiaiilgabDoor
