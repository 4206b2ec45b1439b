/-
  FnExactCoverEdges, at every list.
-/
import Derived.Test.YtcklinoiaiilgaaDoorImplCE
import Derived.Test.YtcklinoiaiilgaaDoorSpecCE
import Derived.Test.YtcklinoiaiilgaaDoorLawCEdges
namespace Go.Proofs.YtcklinoiaiilgaaDoor
set_option linter.unusedVariables false
set_option linter.unusedSimpArgs false
open Go.RowKit

theorem FnExactCoverEdges_final (w : World) (v : Value) (xs : List Int) (h : Ints w v xs) (hr : ∀ x ∈ xs, I64 x) (hT : Tab w) :
    Calls Tryd.prog 10 #[v] w fun e w' => e = .returned (.bool true) ∧ Below w.heap.size w w' :=
  FnExactCoverEdges_walk w v xs h hT (ceOk xs) (ceOf xs) (fun W u hu => specCE_any W u xs hu) (fun W u hu hT => implCE_any W u xs hu hr hT)

end Go.Proofs.YtcklinoiaiilgaaDoor
