/-
  THE NUMBERS OF A TABLE, row by row, on lists.
-/
import Derived.Test.YtfcbhcjgjbcjdaaDoorTables
namespace Go.Proofs.YtfcbhcjgjbcjdaaDoor
set_option linter.unusedVariables false
set_option linter.unusedSimpArgs false
open Go.RowKit

/-- The numbers of a table, row by row. -/
def flat (xss : List (List Int)) (i : Nat) : Int := (xss.getD (i / 6) []).getD (i % 6) 0
/-- What was read when j numbers of row k were. -/
def partT (xss : List (List Int)) (k j : Nat) : Nat → Int := fun i => if i / 6 < k ∨ (i / 6 = k ∧ i % 6 < j) then flat xss i else 0
theorem partT_step (xss : List (List Int)) {k j : Nat} (hj : j < 6) : updI (partT xss k j) (6 * k + j) (flat xss (6 * k + j)) = partT xss k (j + 1) := by
  funext i
  unfold updI partT
  by_cases h : i = 6 * k + j
  · subst h
    rw [if_pos rfl, if_pos (by right; omega)]
  · rw [if_neg h]
    have : (i / 6 < k ∨ (i / 6 = k ∧ i % 6 < j)) ↔ (i / 6 < k ∨ (i / 6 = k ∧ i % 6 < j + 1)) := by omega
    simp only [this]
theorem partT_row (xss : List (List Int)) {k j : Nat} (hl : (xss.getD k []).length ≤ j) : partT xss k j = partT xss (k + 1) 0 := by
  funext i
  unfold partT
  by_cases h : i / 6 < k + 1
  · rw [if_pos (show i / 6 < k + 1 ∨ (i / 6 = k + 1 ∧ i % 6 < 0) from .inl h)]
    by_cases h2 : i / 6 < k ∨ (i / 6 = k ∧ i % 6 < j)
    · rw [if_pos h2]
    · rw [if_neg h2]
      have e : i / 6 = k := by omega
      unfold flat
      rw [e, List.getD_eq_getElem?_getD, List.getElem?_eq_none (by omega)]; rfl
  · rw [if_neg (by omega), if_neg (by omega)]
theorem partT_zero (xss : List (List Int)) : partT xss 0 0 = fun _ => 0 := by
  funext i; unfold partT; rw [if_neg (by omega)]
theorem partT_full (xss : List (List Int)) : partT xss xss.length 0 = flat xss := by
  funext i
  unfold partT
  by_cases h : i / 6 < xss.length
  · rw [if_pos (.inl h)]
  · rw [if_neg (by omega)]
    unfold flat
    have : xss.getD (i / 6) [] = [] := by rw [List.getD_eq_getElem?_getD, List.getElem?_eq_none (by omega)]; rfl
    rw [this]; rfl
theorem flat_at (xss : List (List Int)) {k j : Nat} (hk : k < xss.length) (hj : j < xss[k].length) (h6 : j < 6) : flat xss (6 * k + j) = xss[k][j] := by
  unfold flat
  have e1 : (6 * k + j) / 6 = k := by omega
  have e2 : (6 * k + j) % 6 = j := by omega
  rw [e1, e2]
  simp [List.getD, List.getElem?_eq_getElem hk, List.getElem?_eq_getElem hj]

end Go.Proofs.YtfcbhcjgjbcjdaaDoor
