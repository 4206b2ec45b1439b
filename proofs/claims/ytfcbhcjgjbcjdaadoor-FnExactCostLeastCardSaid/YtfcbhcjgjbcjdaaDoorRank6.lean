/-
  Rankings of six.
-/
import Derived.Test.YtfcbhcjgjbcjdaaDoorRank
namespace Go.Proofs.YtfcbhcjgjbcjdaaDoor
set_option linter.unusedVariables false
set_option linter.unusedSimpArgs false
open Go.RowKit

set_option maxRecDepth 100000 in
theorem rank_6 : ∀ a b c d e f : Fin 6, scanB 63 (fins [a, b, c, d, e, f]) = decide (seenOf (fins [a, b, c, d, e, f]) = 63) := by decide +kernel
theorem len6 {α : Type} {l : List α} (h : l.length = 6) : ∃ a b c d e f, l = [a, b, c, d, e, f] := by
  match l, h with
  | [a, b, c, d, e, f], _ => exact ⟨a, b, c, d, e, f, rfl⟩
/-- Both ask the same. -/
theorem rank_scan6 {n : Nat} (h1 : 1 ≤ n) (h6 : n ≤ 6) (xs : List Int) : rankB n xs = (decide (xs.length = n) && scanB (2 ^ n - 1) xs) := by
  by_cases hl : xs.length = n
  · cases hall : xs.all (inR n) with
    | false =>
      unfold rankB
      rw [hall, Bool.false_and]
      cases hs : scanB (2 ^ n - 1) xs with
      | false => rw [Bool.and_false]
      | true =>
        exfalso
        have : xs.all (inR n) = true := List.all_eq_true.2 fun x hx => by
          have := scanB_in xs _ hs x hx
          exact inR_of_bit this.1 this.2
        rw [hall] at this; cases this
    | true =>
      obtain ⟨l, hll, rfl⟩ := to_fins xs (List.all_eq_true.1 hall)
      unfold rankB
      rw [hall, hl, decide_eq_true (rfl : n = n), Bool.true_and, Bool.true_and]
      rw [hl] at hll
      symm
      have hn : n = 1 ∨ n = 2 ∨ n = 3 ∨ n = 4 ∨ n = 5 ∨ n = 6 := by omega
      rcases hn with rfl | rfl | rfl | rfl | rfl | rfl
      · obtain ⟨a, rfl⟩ := len1 hll; exact rank_1 a
      · obtain ⟨a, b, rfl⟩ := len2 hll; exact rank_2 a b
      · obtain ⟨a, b, c, rfl⟩ := len3 hll; exact rank_3 a b c
      · obtain ⟨a, b, c, d, rfl⟩ := len4 hll; exact rank_4 a b c d
      · obtain ⟨a, b, c, d, e, rfl⟩ := len5 hll; exact rank_5 a b c d e
      · obtain ⟨a, b, c, d, e, f, rfl⟩ := len6 hll; exact rank_6 a b c d e f
  · unfold rankB
    rw [decide_eq_false hl, Bool.false_and, Bool.false_and, Bool.and_false]
end Go.Proofs.YtfcbhcjgjbcjdaaDoor
