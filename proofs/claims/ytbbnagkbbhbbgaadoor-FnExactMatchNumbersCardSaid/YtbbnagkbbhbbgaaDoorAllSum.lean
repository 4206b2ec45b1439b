/-
  THE SUM OF ALL MATCHING NUMBERS; plain functions, no walk.
-/
import Derived.Test.YtbbnagkbbhbbgaaDoorImplNums
namespace Go.Proofs.YtbbnagkbbhbbgaaDoor
set_option linter.unusedVariables false
set_option linter.unusedSimpArgs false
open Go.RowKit
set_option maxRecDepth 100000

/-- The sum of the first few of five numbers. -/
def sum5 (g : Nat → Nat) : Nat → Nat
  | 0 => 0
  | k + 1 => sum5 g k + g k
theorem sum5_le {g : Nat → Nat} (h : ∀ k, g k ≤ 43046721) : ∀ k, sum5 g k ≤ k * 43046721
  | 0 => by simp [sum5]
  | k + 1 => by have := sum5_le h k; have := h k; simp only [sum5]; omega
theorem tab_sum (g : Nat → Nat) : ∀ k, (tab k fun i => (g i : Int)).sum = (sum5 g k : Nat)
  | 0 => rfl
  | k + 1 => by rw [tab_succ, List.sum_append, tab_sum g k]; simp [sum5]
theorem trim_sum (p : List Int) : (trim p).sum = p.sum := by
  induction p with
  | nil => rfl
  | cons x p ih =>
    unfold trim
    split
    · rename_i h
      rw [h.1] at ih
      rw [List.sum_cons, h.2, ← ih]; rfl
    · rw [List.sum_cons, List.sum_cons, ih]
def sumOf (xs : List Int) : Int := (numsOf xs).sum
theorem sumOf_yes {xs : List Int} (hg : gIn xs = true) : sumOf xs = (sum5 (nums (gfun xs) (2 ^ xs.length - 1)) 5 : Nat) := by
  unfold sumOf numsOf
  rw [if_pos hg]
  unfold numL
  rw [trim_sum, tab_sum]
theorem sumOf_no {xs : List Int} (hg : gIn xs = false) : sumOf xs = 0 := by
  unfold sumOf numsOf
  rw [hg]; rfl

end Go.Proofs.YtbbnagkbbhbbgaaDoor
