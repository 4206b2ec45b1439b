/-
  spec.l6sCopies: the lists of a market copied.
-/
import Derived.Test.YtjbgjebbfkhidaaBlocks
import Derived.Deep.AppendLies
namespace Go.Proofs.Ytjbgjebbfkhidaa
set_option linter.unusedVariables false
set_option linter.unusedSimpArgs false
open Go.RowKit


end Go.Proofs.Ytjbgjebbfkhidaa
