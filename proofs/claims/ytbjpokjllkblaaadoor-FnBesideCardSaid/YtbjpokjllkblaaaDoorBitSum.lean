/-
  SUMS OVER THE BITS OF A SET; plain functions, no walk.
-/
import Derived.Test.YtbjpokjllkblaaaDoorSumN
import Derived.Test.YtbjpokjllkblaaaDoorCritB
namespace Go.Proofs.YtbjpokjllkblaaaDoor
set_option linter.unusedVariables false
set_option linter.unusedSimpArgs false
open Go.RowKit
set_option maxRecDepth 100000

theorem sum_filter {α : Type} (p : α → Bool) (g : α → Nat) : ∀ l : List α, ((l.filter p).map g).sum = (l.map fun x => if p x = true then g x else 0).sum
  | [] => rfl
  | x :: l => by
    rw [List.filter_cons, List.map_cons, List.sum_cons, ← sum_filter p g l]
    split
    · rw [List.map_cons, List.sum_cons]
    · rw [Nat.zero_add]
theorem fin_sum (h : Nat → Nat) : ((List.finRange 8).map fun x => h x.val).sum = sumN h 8 := by
  have e : (List.finRange 8) = [0, 1, 2, 3, 4, 5, 6, 7] := by decide
  rw [e]
  show h 0 + (h 1 + (h 2 + (h 3 + (h 4 + (h 5 + (h 6 + (h 7 + 0))))))) = 0 + h 0 + h 1 + h 2 + h 3 + h 4 + h 5 + h 6 + h 7
  omega
theorem bits_to (m : Nat) (g : Nat → Nat) : ((bitsOf m).map fun w => g w.val).sum = sumN (fun w => if m.testBit w = true then g w else 0) 8 := by
  unfold bitsOf
  rw [sum_filter]
  exact fin_sum fun w => if m.testBit w = true then g w else 0
theorem sumN_stop {h : Nat → Nat} {n : Nat} : ∀ m, n ≤ m → (∀ i, n ≤ i → i < m → h i = 0) → sumN h m = sumN h n
  | 0, hm, _ => by obtain rfl : n = 0 := by omega
                   rfl
  | m + 1, hm, hz => by
    by_cases e : n = m + 1
    · rw [e]
    · rw [sumN_succ, sumN_stop m (by omega) (fun i h1 h2 => hz i h1 (by omega)), hz m (by omega) (by omega)]; rfl
end Go.Proofs.YtbjpokjllkblaaaDoor
