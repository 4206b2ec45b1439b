/-
  A FUNCTION HAS HANDED BACK A NUMBER AND WHETHER IT SUCCEEDED.
-/
import Derived.Test.YtjijkgmeddeihaaDoorBase
namespace Go.Proofs.YtjijkgmeddeihaaDoor
set_option linter.unusedVariables false
set_option linter.unusedSimpArgs false
open Go.RowKit

def GivesNum (w : World) (ok : Bool) (r : Int) (e : Ending) (w' : World) : Prop :=
  e = .returned (.tuple #[.int .i64 r, .bool ok]) ∧ Below w.heap.size w w'

end Go.Proofs.YtjijkgmeddeihaaDoor
