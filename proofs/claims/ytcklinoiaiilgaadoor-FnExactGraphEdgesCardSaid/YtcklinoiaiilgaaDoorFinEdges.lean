/-
  FnExactGraphEdges, at every list.
-/
import Derived.Test.YtcklinoiaiilgaaDoorSpecEdges
import Derived.Test.YtcklinoiaiilgaaDoorLawGEdges
namespace Go.Proofs.YtcklinoiaiilgaaDoor
open Go.RowKit

theorem FnExactGraphEdges_final (w : World) (v : Value) (xs : List Int) (h : Ints w v xs) (hr : ∀ x ∈ xs, I64 x) (hT : Tab w) :
    Calls Tryd.prog 13 #[v] w fun e w' => e = .returned (.bool true) ∧ Below w.heap.size w w' :=
  FnExactGraphEdges_walk w v xs h hT (gIn xs) (edgesL xs) (edgesL_len xs) (fun W u hu => specEdges_any W u xs hu) (fun W u hu hT => implEdges_any W u xs hu hr hT)

end Go.Proofs.YtcklinoiaiilgaaDoor
