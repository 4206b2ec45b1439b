/-
  FnExactMatchNumbers, FnExactMatchGreatest, FnExactMatchAll, at every list.
-/
import Derived.Test.YtcklinoiaiilgaaDoorImplAll
import Derived.Test.YtcklinoiaiilgaaDoorLawMNumbers
import Derived.Test.YtcklinoiaiilgaaDoorLawMGreatest
import Derived.Test.YtcklinoiaiilgaaDoorLawMAll
namespace Go.Proofs.YtcklinoiaiilgaaDoor
set_option linter.unusedVariables false
set_option linter.unusedSimpArgs false
open Go.RowKit

theorem FnExactMatchNumbers_final (w : World) (v : Value) (xs : List Int) (h : Ints w v xs) (hr : ∀ x ∈ xs, I64 x) (hT : Tab w) :
    Calls Tryd.prog 3 #[v] w fun e w' => e = .returned (.bool true) ∧ Below w.heap.size w w' :=
  FnExactMatchNumbers_walk w v xs h hT (gIn xs) (numsOf xs) (by have := (numsOf_within xs).2; omega) (fun W u hu => specNumbers_any W u xs hu) (fun W u hu hT => implNumbers_any W u xs hu hr hT)
theorem FnExactMatchGreatest_final (w : World) (v : Value) (xs : List Int) (h : Ints w v xs) (hr : ∀ x ∈ xs, I64 x) (hT : Tab w) :
    Calls Tryd.prog 4 #[v] w fun e w' => e = .returned (.bool true) ∧ Below w.heap.size w w' :=
  FnExactMatchGreatest_walk w v xs h hT (gIn xs) _ (fun W u hu => specGreatest_any W u xs hu) (fun W u hu hT => implGreatest_any W u xs hu hr hT)
theorem FnExactMatchAll_final (w : World) (v : Value) (xs : List Int) (h : Ints w v xs) (hr : ∀ x ∈ xs, I64 x) (hT : Tab w) :
    Calls Tryd.prog 5 #[v] w fun e w' => e = .returned (.bool true) ∧ Below w.heap.size w w' :=
  FnExactMatchAll_walk w v xs h hT (gIn xs) (sumOf xs) (fun W u hu => specAll_any W u xs hu) (fun W u hu hT => implAll_any W u xs hu hr hT)

end Go.Proofs.YtcklinoiaiilgaaDoor
