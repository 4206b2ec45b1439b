/-
  spec.GraphFull: what it hands back.
-/
import Derived.Test.YtcklinoiaiilgabDoorSets
import Derived.Test.YtcklinoiaiilgabDoorLinks
import Derived.Deep.RegionLaw
import Derived.Deep.AppendLies
namespace Go.Proofs.YtcklinoiaiilgabDoor
set_option linter.unusedVariables false
set_option linter.unusedSimpArgs false
open Go.RowKit

def fullOf (n : Nat) : Nat → Nat := fun i => (2 ^ n - 1) &&& (255 - 2 ^ i)


end Go.Proofs.YtcklinoiaiilgabDoor
