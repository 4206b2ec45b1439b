/-
  FnExactMatchNumbers, at every list.
-/
import Derived.Test.YtbbnagkbbhbbgaaDoorSpecGreat
import Derived.Test.YtbbnagkbbhbbgaaDoorLawMNumbers
namespace Go.Proofs.YtbbnagkbbhbbgaaDoor
set_option linter.unusedVariables false
set_option linter.unusedSimpArgs false
open Go.RowKit

theorem FnExactMatchNumbers_final (w : World) (v : Value) (xs : List Int) (h : Ints w v xs) (hr : ∀ x ∈ xs, I64 x) (hT : Tab w) :
    Calls Tryd.prog 3 #[v] w fun e w' => e = .returned (.bool true) ∧ Below w.heap.size w w' :=
  FnExactMatchNumbers_walk w v xs h hT (gIn xs) (numsOf xs) (by have := (numsOf_within xs).2; omega) (fun W u hu => specNumbers_any W u xs hu) (fun W u hu hT => implNumbers_any W u xs hu hr hT)

end Go.Proofs.YtbbnagkbbhbbgaaDoor
