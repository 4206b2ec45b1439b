/-
  ALL MATCHINGS OF A SET; plain functions, no walk.
-/
import Derived.Test.YtejbeglchholhaaDoorAllSum
namespace Go.Proofs.YtejbeglchholhaaDoor
set_option linter.unusedVariables false
set_option linter.unusedSimpArgs false
open Go.RowKit
set_option maxRecDepth 100000

def tot (f : Nat → Nat) (s : Nat) : Nat := sum5 (nums f s) 5
theorem tot_le (f : Nat → Nat) {s : Nat} (hs : s < 256) : tot f s ≤ 215233605 := by
  have := sum5_le (g := nums f s) (fun k => nums_small hs k) 5
  unfold tot; omega
theorem sum5_congr {g h : Nat → Nat} : ∀ k, (∀ i, g i = h i) → sum5 g k = sum5 h k
  | 0, _ => rfl
  | k + 1, e => by simp only [sum5]; rw [sum5_congr k e, e k]
theorem sum5_add (g h : Nat → Nat) : ∀ k, sum5 (fun i => g i + h i) k = sum5 g k + sum5 h k
  | 0 => rfl
  | k + 1 => by simp only [sum5]; rw [sum5_add g h k]; omega
theorem tot_zero (f : Nat → Nat) : tot f 0 = 1 := by
  unfold tot
  rw [sum5_congr 5 (fun i => nums_zero f i)]
  rfl

end Go.Proofs.YtejbeglchholhaaDoor
