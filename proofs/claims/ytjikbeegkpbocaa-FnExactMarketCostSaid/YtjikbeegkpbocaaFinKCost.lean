/-
  FnExactMarketCost: the law's walk with both contracts.
-/
import Derived.Test.YtjikbeegkpbocaaLawKCost
import Derived.Test.YtjikbeegkpbocaaImplMCost
namespace Go.Proofs.Ytjikbeegkpbocaa
set_option linter.unusedVariables false
set_option linter.unusedSimpArgs false
open Go.RowKit

theorem FnExactMarketCost_final (w : World) (L R : Value) (ls rs : List (List Int)) (v1 : Value) (xs1 : List Int) (hL : IntRows w L ls) (hR : IntRows w R rs) (h1 : Ints w v1 xs1) :
    Calls Try.prog 5 #[.agg (two L R), v1] w fun e w' => e = .returned (.bool true) ∧ Below w.heap.size w w' :=
  FnExactMarketCost_walk w L R ls rs v1 xs1 hL hR h1 _ _ _ (fun W p L R h1 h2 h3 => specCost_any W L R p ls rs xs1 h1 h2 h3) (fun W p L R h1 h2 h3 => implCost_any W L R p ls rs xs1 h1 h2 h3)

end Go.Proofs.Ytjikbeegkpbocaa
