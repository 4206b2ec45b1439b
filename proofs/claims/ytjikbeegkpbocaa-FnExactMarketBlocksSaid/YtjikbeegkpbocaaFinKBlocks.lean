/-
  FnExactMarketBlocks: the law's walk with both contracts.
-/
import Derived.Test.YtjikbeegkpbocaaLawKBlocks
import Derived.Test.YtjikbeegkpbocaaImplBlocks
namespace Go.Proofs.Ytjikbeegkpbocaa
set_option linter.unusedVariables false
set_option linter.unusedSimpArgs false
open Go.RowKit

theorem FnExactMarketBlocks_final (w : World) (L R : Value) (ls rs : List (List Int)) (v1 : Value) (xs1 : List Int) (hL : IntRows w L ls) (hR : IntRows w R rs) (h1 : Ints w v1 xs1) :
    Calls Try.prog 10 #[.agg (two L R), v1] w fun e w' => e = .returned (.bool true) ∧ Below w.heap.size w w' :=
  FnExactMarketBlocks_walk w L R ls rs v1 xs1 hL hR h1 (pairOk ls rs xs1) _ (blocksL_len ls rs xs1) (fun W p L R h1 h2 h3 => specBlocks_any W L R p ls rs xs1 h1 h2 h3) (fun W p L R h1 h2 h3 => implBlocks_any W L R p ls rs xs1 h1 h2 h3)

end Go.Proofs.Ytjikbeegkpbocaa
