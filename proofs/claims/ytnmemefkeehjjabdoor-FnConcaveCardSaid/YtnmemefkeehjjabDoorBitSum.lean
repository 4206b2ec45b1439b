/-
  SUMS OVER THE BITS OF A SET; plain functions, no walk.
-/
import Derived.Test.YtnmemefkeehjjabDoorEdgeMath
import Derived.Test.YtnmemefkeehjjabDoorCritB
namespace Go.Proofs.YtnmemefkeehjjabDoor
set_option linter.unusedVariables false
set_option linter.unusedSimpArgs false
open Go.RowKit
set_option maxRecDepth 100000

theorem sum_filter {α : Type} (p : α → Bool) (g : α → Nat) : ∀ l : List α, ((l.filter p).map g).sum = (l.map fun x => if p x = true then g x else 0).sum
  | [] => rfl
  | x :: l => by
    rw [List.filter_cons, List.map_cons, List.sum_cons, ← sum_filter p g l]
    split
    · rw [List.map_cons, List.sum_cons]
    · rw [Nat.zero_add]
theorem fin_sum (h : Nat → Nat) : ((List.finRange 8).map fun x => h x.val).sum = sumN h 8 := by
  have e : (List.finRange 8) = [0, 1, 2, 3, 4, 5, 6, 7] := by decide
  rw [e]
  show h 0 + (h 1 + (h 2 + (h 3 + (h 4 + (h 5 + (h 6 + (h 7 + 0))))))) = 0 + h 0 + h 1 + h 2 + h 3 + h 4 + h 5 + h 6 + h 7
  omega
theorem bits_to (m : Nat) (g : Nat → Nat) : ((bitsOf m).map fun w => g w.val).sum = sumN (fun w => if m.testBit w = true then g w else 0) 8 := by
  unfold bitsOf
  rw [sum_filter]
  exact fin_sum fun w => if m.testBit w = true then g w else 0
theorem sumN_stop {h : Nat → Nat} {n : Nat} : ∀ m, n ≤ m → (∀ i, n ≤ i → i < m → h i = 0) → sumN h m = sumN h n
  | 0, hm, _ => by obtain rfl : n = 0 := by omega
                   rfl
  | m + 1, hm, hz => by
    by_cases e : n = m + 1
    · rw [e]
    · rw [sumN_succ, sumN_stop m (by omega) (fun i h1 h2 => hz i h1 (by omega)), hz m (by omega) (by omega)]; rfl
/-- The matchings of some nodes where one is left out. -/
theorem out_nums {xs : List Int} {v : Nat} (hg : gIn xs = true) (h2 : 2 ≤ xs.length) (hv : v < xs.length) {s : Nat} (hs : s < 2 ^ (xs.length - 1)) (k : Nat) : nums (gfun (outOf xs (v : Int))) s k = nums (gfun xs) (lift v s) k := by
  obtain ⟨h1, h8, hok⟩ := gIn_parts hg
  have hlt := gfun_lt h8 hok
  obtain ⟨hO, _⟩ := out_facts hg h2 hv
  have hL : outOf xs (v : Int) = glist (xs.length - 1) (shutOf (gfun xs) v) := by
    unfold outOf; rw [if_pos hO]; rfl
  have h128 : 2 ^ (xs.length - 1) ≤ 2 ^ 7 := Nat.pow_le_pow_right (by decide) (by omega)
  have e1 := nums_same (F := gfun (glist (xs.length - 1) (shutOf (gfun xs) v))) (G := shutOf (gfun xs) v) s (by omega) (fun i hi => by
    have hin : i.val < xs.length - 1 := by
      rcases Nat.lt_or_ge i.val (xs.length - 1) with h | h
      · exact h
      · rw [Nat.testBit_lt_two_pow (Nat.lt_of_lt_of_le hs (Nat.pow_le_pow_right (by decide) h))] at hi; cases hi
    exact gfun_glist _ hin) k
  rw [hL, e1]
  exact (nums_lift hlt ⟨v, by omega⟩ s (by omega) k).symm
end Go.Proofs.YtnmemefkeehjjabDoor
