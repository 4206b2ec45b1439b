/-
  spec.MarketCost and impl.MarketCost.
-/
import Derived.Test.YtahilcnmjnjcaaaDoorCost
import Derived.Test.YtahilcnmjnjcaaaDoorCore1
import Derived.OwnWalk
namespace Go.Proofs.YtahilcnmjnjcaaaDoor
set_option linter.unusedVariables false
set_option linter.unusedSimpArgs false
open Go.RowKit

def GivesCost (w : World) (ls rs : List (List Int)) (xs : List Int) : Ending → World → Prop :=
  GivesNum2 w (pairOk ls rs xs) (if pairOk ls rs xs = true then sumI (costL ls xs) ls.length else 0) (if pairOk ls rs xs = true then sumI (costR rs xs) ls.length else 0)
theorem gives_cost_no {w W : World} {ls rs : List (List Int)} {xs : List Int} (h : pairOk ls rs xs = false) (hb : Below w.heap.size w W) : GivesCost w ls rs xs (.returned (.tuple #[.int .i64 0, .int .i64 0, .bool false])) W := by
  unfold GivesCost GivesNum2
  rw [h]
  exact ⟨rfl, hb⟩
theorem gives_cost_yes {w W : World} {ls rs : List (List Int)} {xs : List Int} (h : pairOk ls rs xs = true) (hb : Below w.heap.size w W) : GivesCost w ls rs xs (.returned (.tuple #[.int .i64 (sumI (costL ls xs) ls.length), .int .i64 (sumI (costR rs xs) ls.length), .bool true])) W := by
  unfold GivesCost GivesNum2
  rw [h]
  exact ⟨rfl, hb⟩
theorem pair_parts {ls rs : List (List Int)} {xs : List Int} (h : pairOk ls rs xs = true) : 1 ≤ ls.length ∧ ls.length ≤ 5 ∧ rs.length = ls.length ∧ xs.length = ls.length ∧ (∀ l ∈ ls, rankB ls.length l = true) ∧ (∀ r ∈ rs, rankB ls.length r = true) ∧ rankB ls.length xs = true := by
  unfold pairOk at h
  rw [Bool.and_eq_true] at h
  obtain ⟨⟨h1, h5, hl⟩, hs1, hs2⟩ := mktOk_parts h.1
  refine ⟨h1, h5, hl, (rank_parts h.2).1, List.all_eq_true.1 hs1, ?_, h.2⟩
  have := List.all_eq_true.1 hs2
  rw [hl] at this
  exact this


end Go.Proofs.YtahilcnmjnjcaaaDoor
