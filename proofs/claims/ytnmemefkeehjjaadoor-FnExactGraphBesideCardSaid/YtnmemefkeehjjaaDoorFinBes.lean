/-
  FnExactGraphBeside: the law, from both contracts.
-/
import Derived.Test.YtnmemefkeehjjaaDoorLawBeside
import Derived.Test.YtnmemefkeehjjaaDoorSpecBes
import Derived.Test.YtnmemefkeehjjaaDoorImplBesY
namespace Go.Proofs.YtnmemefkeehjjaaDoor
set_option linter.unusedVariables false
set_option linter.unusedSimpArgs false
open Go.RowKit

theorem FnExactGraphBeside_final (w : World) (v0 : Value) (xs0 : List Int) (v1 : Value) (xs1 : List Int) (h0 : Ints w v0 xs0) (r0 : ∀ x ∈ xs0, I64 x) (h1 : Ints w v1 xs1) (r1 : ∀ x ∈ xs1, I64 x) (hT : Tab w) :
    Calls Tryd.prog 5 #[v0, v1] w fun e w' => e = .returned (.bool true) ∧ Below w.heap.size w w' :=
  FnExactGraphBeside_walk w v0 xs0 v1 xs1 h0 h1 hT _ _ (besOf_len _ _) (fun W u0 u1 a b => specBeside_any W u0 u1 xs0 xs1 a b) (fun W u0 u1 a b t => implBeside_any W u0 u1 xs0 xs1 a b r0 r1 t)

end Go.Proofs.YtnmemefkeehjjaaDoor
