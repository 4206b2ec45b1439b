/-
  FnExactMarketMeet: the law's walk with both contracts.
-/
import Derived.Test.YtjikbeegkpbocaaLawKMeet
import Derived.Test.YtjikbeegkpbocaaImplMeet
namespace Go.Proofs.Ytjikbeegkpbocaa
set_option linter.unusedVariables false
set_option linter.unusedSimpArgs false
open Go.RowKit

theorem FnExactMarketMeet_final (w : World) (L R : Value) (ls rs : List (List Int)) (v1 : Value) (xs1 : List Int) (v2 : Value) (xs2 : List Int) (hL : IntRows w L ls) (hR : IntRows w R rs) (h1 : Ints w v1 xs1) (h2 : Ints w v2 xs2) :
    Calls Try.prog 9 #[.agg (two L R), v1, v2] w fun e w' => e = .returned (.bool true) ∧ Below w.heap.size w w' :=
  FnExactMarketMeet_walk w L R ls rs v1 xs1 v2 xs2 hL hR h1 h2 (bothB ls rs xs1 xs2) _ (chooseOf_len ls rs xs1 xs2 _) (fun W p q L R h1 h2 h3 h4 => specSMeet_any W L R p q ls rs xs1 xs2 h1 h2 h3 h4) (fun W p q L R h1 h2 h3 h4 => implMeet_any W L R p q ls rs xs1 xs2 h1 h2 h3 h4)

end Go.Proofs.Ytjikbeegkpbocaa
