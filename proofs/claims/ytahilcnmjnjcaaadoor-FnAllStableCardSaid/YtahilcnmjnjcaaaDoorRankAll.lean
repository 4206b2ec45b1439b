/-
  A list in which each member is, is a ranking. Plain functions.
-/
import Derived.Test.YtahilcnmjnjcaaaDoorRank1
namespace Go.Proofs.YtahilcnmjnjcaaaDoor
set_option linter.unusedVariables false
set_option linter.unusedSimpArgs false

theorem seen_fold (xs : List Int) (s j : Nat) : (xs.foldl (fun s x => s ||| 2 ^ x.toNat) s).testBit j = (s.testBit j || xs.any (fun x => decide (x.toNat = j))) := by
  induction xs generalizing s with
  | nil => simp
  | cons x t ih =>
    rw [List.foldl_cons, ih, Nat.testBit_or, Nat.testBit_two_pow, List.any_cons, Bool.or_assoc]
theorem rank_of_all {n : Nat} {xs : List Int} (hl : xs.length = n) (hin : ∀ x ∈ xs, 0 ≤ x ∧ x ≤ (n : Int) - 1) (hall : ∀ i, i < n → (i : Int) ∈ xs) : rankB n xs = true := by
  unfold rankB
  rw [Bool.and_eq_true, Bool.and_eq_true, decide_eq_true_iff, decide_eq_true_iff, List.all_eq_true]
  refine ⟨fun x hx => by unfold inR; exact decide_eq_true (hin x hx), hl, ?_⟩
  refine Nat.eq_of_testBit_eq fun j => ?_
  unfold seenOf
  rw [seen_fold, Nat.testBit_two_pow_sub_one]
  by_cases hj : j < n
  · rw [decide_eq_true hj]
    have : xs.any (fun x => decide (x.toNat = j)) = true := List.any_eq_true.2 ⟨(j : Int), hall j hj, by simp⟩
    rw [this]; simp
  · rw [decide_eq_false hj]
    have : xs.any (fun x => decide (x.toNat = j)) = false := by
      rw [Bool.eq_false_iff]
      intro h
      obtain ⟨x, hx, he⟩ := List.any_eq_true.1 h
      have := hin x hx
      have := of_decide_eq_true he
      omega
    rw [this]; simp

end Go.Proofs.YtahilcnmjnjcaaaDoor
