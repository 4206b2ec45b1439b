/-
  WHAT A FUNCTION HAS HANDED BACK: lists of lists, numbers, whether.
-/
import Derived.Test.YtjijkgmeddeihaaDoorSpan
namespace Go.Proofs.YtjijkgmeddeihaaDoor
set_option linter.unusedVariables false
set_option linter.unusedSimpArgs false
open Go.RowKit

def GivesRows (w : World) (ok : Bool) (xss : List (List Int)) (e : Ending) (w' : World) : Prop :=
  ∃ v us, e = .returned (.tuple #[v, .bool ok]) ∧ Below w.heap.size w w' ∧ OwnsRows w' w.heap.size w'.heap.size v us xss
def GivesBool (w : World) (r : Bool) (e : Ending) (w' : World) : Prop := e = .returned (.bool r) ∧ Below w.heap.size w w'
def GivesNum2 (w : World) (ok : Bool) (r1 r2 : Int) (e : Ending) (w' : World) : Prop := e = .returned (.tuple #[.int .i64 r1, .int .i64 r2, .bool ok]) ∧ Below w.heap.size w w'

end Go.Proofs.YtjijkgmeddeihaaDoor
