/-
  FnExactMarketTurned: the law's walk with both contracts.
-/
import Derived.Test.YtjikbeegkpbocaaImplTurned
namespace Go.Proofs.Ytjikbeegkpbocaa
set_option linter.unusedVariables false
set_option linter.unusedSimpArgs false
open Go.RowKit

theorem FnExactMarketTurned_final (w : World) (L R : Value) (ls rs : List (List Int)) (hL : IntRows w L ls) (hR : IntRows w R rs) :
    Calls Try.prog 6 #[.agg (two L R)] w fun e w' => e = .returned (.bool true) ∧ Below w.heap.size w w' :=
  FnExactMarketTurned_walk w L R ls rs hL hR (mktOk ls rs) _ _ (turned_fits ls rs) (fun W L R h1 h2 => specTurned_any W L R ls rs h1 h2) (fun W L R h1 h2 => implTurned_any W L R ls rs h1 h2)

end Go.Proofs.Ytjikbeegkpbocaa
