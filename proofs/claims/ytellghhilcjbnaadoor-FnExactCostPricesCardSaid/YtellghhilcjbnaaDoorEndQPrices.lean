/-
  FnExactCostPrices holds.
-/
import Derived.Test.YtellghhilcjbnaaDoorFinQPrices
import Derived.Test.YtellghhilcjbnaaDoorSpecQPrices
import Derived.Test.YtellghhilcjbnaaDoorLawQPrices
namespace Go.Proofs.YtellghhilcjbnaaDoor
set_option linter.unusedVariables false
set_option linter.unusedSimpArgs false
open Go.RowKit

theorem FnExactCostPrices_final (w : World) (v : Value) (xss : List (List Int)) (h : IntRows w v xss) (hT : Tab w) :
    Calls Tryd.prog 3 #[v] w fun e w' => e = .returned (.bool true) ∧ Below w.heap.size w w' := by
  refine FnExactCostPrices_walk w v xss h hT (cIn xss) (pqOf xss) ?_ (fun W u hu => specQPrices_any W u xss hu) (fun W u hu hTW => implQPrices_any W u xss hu hTW)
  cases hci : cIn xss with
  | false => unfold pqOf; rw [hci]; simp
  | true =>
    have := (cIn_size hci).2
    rw [pq_len hci]
    omega

end Go.Proofs.YtellghhilcjbnaaDoor
