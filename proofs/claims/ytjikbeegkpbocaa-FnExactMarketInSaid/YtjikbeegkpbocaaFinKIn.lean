/-
  FnExactMarketIn: the law's walk with both contracts.
-/
import Derived.Test.YtjikbeegkpbocaaLawKIn
import Derived.Test.YtjikbeegkpbocaaSpecMIn
import Derived.Test.YtjikbeegkpbocaaImplMIn
namespace Go.Proofs.Ytjikbeegkpbocaa
set_option linter.unusedVariables false
set_option linter.unusedSimpArgs false
open Go.RowKit

theorem FnExactMarketIn_final (w : World) (L R : Value) (ls rs : List (List Int)) (hL : IntRows w L ls) (hR : IntRows w R rs) :
    Calls Try.prog 3 #[.agg (two L R)] w fun e w' => e = .returned (.bool true) ∧ Below w.heap.size w w' :=
  FnExactMarketIn_walk w L R ls rs hL hR (mktOk ls rs) (fun W L R h1 h2 => specMIn_any W L R ls rs h1 h2) (fun W L R h1 h2 => implMIn_any W L R ls rs h1 h2)

end Go.Proofs.Ytjikbeegkpbocaa
