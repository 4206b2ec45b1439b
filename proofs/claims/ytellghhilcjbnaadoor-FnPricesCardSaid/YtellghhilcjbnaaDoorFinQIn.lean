/-
  impl.CostIn, and the law of it.
-/
import Derived.Test.YtellghhilcjbnaaDoorTabs
import Derived.Test.YtellghhilcjbnaaDoorLawQIn
namespace Go.Proofs.YtellghhilcjbnaaDoor
set_option linter.unusedVariables false
set_option linter.unusedSimpArgs false
open Go.RowKit

theorem cFrom_shape (xss : List (List Int)) : ∃ n F, cFromOf xss = tcells n F := by
  unfold cFromOf; split
  · exact ⟨_, _, rfl⟩
  · exact ⟨_, _, rfl⟩



end Go.Proofs.YtellghhilcjbnaaDoor
