/-
  spec.PolyIn, l3Done, l2Add, l3Small, l3Times: the specification's polynomials.
-/
import Derived.Test.YtbbnagkbbhbbgaaDoorNum1
import Derived.Test.YtbbnagkbbhbbgaaDoorGives
import Derived.Test.YtbbnagkbbhbbgaaDoorNum
import Derived.Test.YtbbnagkbbhbbgaaDoorCore1
import Derived.Deep.QuietTactic
import Derived.BigQuiet
import Derived.IntWalk
import Derived.Outline
import Derived.Deep.RegionLaw
namespace Go.Proofs.YtbbnagkbbhbbgaaDoor
set_option linter.unusedVariables false
set_option linter.unusedSimpArgs false
open Go.RowKit

/-- A new list of integers with an address. -/
def GivesAt (w : World) (xs : List Int) (e : Ending) (w' : World) : Prop :=
  ∃ g cap, e = .returned (.slice (some ⟨g, 0, none⟩) xs.length cap) ∧ Below w.heap.size w w' ∧ Owns w' w.heap.size (.slice (some ⟨g, 0, none⟩) xs.length cap) xs




end Go.Proofs.YtbbnagkbbhbbgaaDoor
