/-
  FnExactMarketAbove: the law's walk with both contracts.
-/
import Derived.Test.YtjikbeegkpbocaaLawKAbove
import Derived.Test.YtjikbeegkpbocaaImplAbove
namespace Go.Proofs.Ytjikbeegkpbocaa
set_option linter.unusedVariables false
set_option linter.unusedSimpArgs false
open Go.RowKit

theorem FnExactMarketAbove_final (w : World) (L R : Value) (ls rs : List (List Int)) (v1 : Value) (xs1 : List Int) (v2 : Value) (xs2 : List Int) (hL : IntRows w L ls) (hR : IntRows w R rs) (h1 : Ints w v1 xs1) (h2 : Ints w v2 xs2) :
    Calls Try.prog 7 #[.agg (two L R), v1, v2] w fun e w' => e = .returned (.bool true) ∧ Below w.heap.size w w' :=
  FnExactMarketAbove_walk w L R ls rs v1 xs1 v2 xs2 hL hR h1 h2 (aboveOk ls rs xs1 xs2) (fun W p q L R h1 h2 h3 h4 => specAbove_any W L R p q ls rs xs1 xs2 h1 h2 h3 h4) (fun W p q L R h1 h2 h3 h4 => implAbove_any W L R p q ls rs xs1 xs2 h1 h2 h3 h4)

end Go.Proofs.Ytjikbeegkpbocaa
