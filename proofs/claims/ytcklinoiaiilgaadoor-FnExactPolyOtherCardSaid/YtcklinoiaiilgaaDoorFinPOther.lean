/-
  FnExactPolyOther, at every list.
-/
import Derived.Test.YtcklinoiaiilgaaDoorImplPOther
import Derived.Test.YtcklinoiaiilgaaDoorSpecPOther
import Derived.Test.YtcklinoiaiilgaaDoorLawPOther
namespace Go.Proofs.YtcklinoiaiilgaaDoor
set_option linter.unusedVariables false
set_option linter.unusedSimpArgs false
open Go.RowKit

theorem FnExactPolyOther_final (w : World) (v : Value) (xs : List Int) (h : Ints w v xs) (hr : ∀ x ∈ xs, I64 x) (hT : Tab w) :
    Calls Tryd.prog 7 #[v] w fun e w' => e = .returned (.bool true) ∧ Below w.heap.size w w' :=
  FnExactPolyOther_walk w v xs h hT (gIn xs) (othOk xs) (fun W u hu => specPOther_any W u xs hu) (fun W u hu hT => implPOther_any W u xs hu hr hT)

end Go.Proofs.YtcklinoiaiilgaaDoor
