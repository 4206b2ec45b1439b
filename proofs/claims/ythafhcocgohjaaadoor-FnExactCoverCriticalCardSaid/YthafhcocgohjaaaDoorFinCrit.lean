/-
  FnExactCoverCritical: the law's walk with both contracts.
-/
import Derived.Test.YthafhcocgohjaaaDoorImplCrit
import Derived.Test.YthafhcocgohjaaaDoorSpecCrit
import Derived.Test.YthafhcocgohjaaaDoorLawCrit
namespace Go.Proofs.YthafhcocgohjaaaDoor
set_option linter.unusedVariables false
set_option linter.unusedSimpArgs false
open Go.RowKit

theorem FnExactCoverCritical_final (w : World) (v : Value) (xs : List Int) (h : Ints w v xs) (hr : ∀ x ∈ xs, I64 x) (hT : Tab w) :
    Calls Tryd.prog 3 #[v] w fun e w' => e = .returned (.bool true) ∧ Below w.heap.size w w' :=
  FnExactCoverCritical_walk w v xs h hT (critOf xs) (fun W u hu => specCrit_any W u xs hu) (fun W u hu hT => implCrit_any W u xs hu hr hT)

end Go.Proofs.YthafhcocgohjaaaDoor
