/-
  spec.l6mStable, spec.MarketAbove.
-/
import Derived.Test.YtahilcnmjnjcaaaDoorBlocks
namespace Go.Proofs.YtahilcnmjnjcaaaDoor
set_option linter.unusedVariables false
set_option linter.unusedSimpArgs false
open Go.RowKit

def stableB (ls rs : List (List Int)) (xs : List Int) : Bool := pairOk ls rs xs && (blocksOf ls rs xs).isEmpty
theorem stable_parts {ls rs : List (List Int)} {xs : List Int} (h : stableB ls rs xs = true) : pairOk ls rs xs = true ∧ blocksOf ls rs xs = [] := by
  unfold stableB at h
  rw [Bool.and_eq_true] at h
  exact ⟨h.1, by simpa using h.2⟩
theorem len_isEmpty {α : Type} (l : List α) : (((l.length : Nat) : Int) == 0) = l.isEmpty := by
  cases l with
  | nil => rfl
  | cons x t => simp; omega


def aboveTo (ls : List (List Int)) (ps qs : List Int) (i : Nat) : Bool := decide (place (ls.getD i []) (ps.getD i 0) ≤ place (ls.getD i []) (qs.getD i 0))
def aboveB (ls : List (List Int)) (ps qs : List Int) : Bool := (List.range ls.length).all (aboveTo ls ps qs)
def aboveOk (ls rs : List (List Int)) (ps qs : List Int) : Bool := stableB ls rs ps && (stableB ls rs qs && aboveB ls ps qs)
theorem aboveB_no {ls : List (List Int)} {ps qs : List Int} {i : Nat} (hi : i < ls.length) (h : aboveTo ls ps qs i = false) : aboveB ls ps qs = false := by
  unfold aboveB
  rw [Bool.eq_false_iff]
  intro hall
  rw [List.all_eq_true.1 hall i (List.mem_range.2 hi)] at h
  cases h
theorem aboveB_yes {ls : List (List Int)} {ps qs : List Int} (h : ∀ i, i < ls.length → aboveTo ls ps qs i = true) : aboveB ls ps qs = true :=
  List.all_eq_true.2 fun i hi => h i (List.mem_range.1 hi)


end Go.Proofs.YtahilcnmjnjcaaaDoor
