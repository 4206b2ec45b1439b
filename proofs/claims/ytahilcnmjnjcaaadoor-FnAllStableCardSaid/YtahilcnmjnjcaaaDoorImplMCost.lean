/-
  impl.MarketCost.
-/
import Derived.Test.YtahilcnmjnjcaaaDoorRank1
import Derived.Test.YtahilcnmjnjcaaaDoorMktCost
import Derived.Test.YtahilcnmjnjcaaaDoorSide1
import Derived.Deep.RegionLaw
namespace Go.Proofs.YtahilcnmjnjcaaaDoor
set_option linter.unusedVariables false
set_option linter.unusedSimpArgs false
open Go.RowKit

theorem back_rows {ls : List (List Int)} {n : Nat} (h1 : 1 ≤ n) (h5 : n ≤ 5) (hr : ∀ l ∈ ls, rankB n l = true) : ∀ y ∈ ls.map backOf, y.length = n ∧ ∀ z ∈ y, 0 ≤ z ∧ z ≤ 5 := by
  intro y hy
  obtain ⟨l, hl, rfl⟩ := List.mem_map.1 hy
  exact ⟨by rw [backOf_len]; exact (rank_parts (hr l hl)).1, back_bounds h1 h5 (hr l hl)⟩


end Go.Proofs.YtahilcnmjnjcaaaDoor
