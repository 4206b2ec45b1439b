/-
  SUMS OVER NODES; plain functions, no walk.
-/
import Derived.Test.YtbjpokjllkblaaaDoorCore1
namespace Go.Proofs.YtbjpokjllkblaaaDoor
set_option linter.unusedVariables false
set_option linter.unusedSimpArgs false
open Go.RowKit
set_option maxRecDepth 100000

def sumN (h : Nat → Nat) : Nat → Nat
  | 0 => 0
  | k + 1 => sumN h k + h k
theorem sumN_succ (h : Nat → Nat) (k : Nat) : sumN h (k + 1) = sumN h k + h k := rfl
theorem sumN_congr {h g : Nat → Nat} : ∀ n, (∀ i, i < n → h i = g i) → sumN h n = sumN g n
  | 0, _ => rfl
  | n + 1, e => by rw [sumN_succ, sumN_succ, sumN_congr n (fun i hi => e i (by omega)), e n (by omega)]
theorem sumN_add (h g : Nat → Nat) : ∀ n, sumN (fun i => h i + g i) n = sumN h n + sumN g n
  | 0 => rfl
  | n + 1 => by simp only [sumN_succ, sumN_add h g n]; omega
theorem sumN_zero : ∀ n, sumN (fun _ => 0) n = 0
  | 0 => rfl
  | n + 1 => by rw [sumN_succ, sumN_zero n]
theorem sumN_le {h : Nat → Nat} {c : Nat} : ∀ n, (∀ i, i < n → h i ≤ c) → sumN h n ≤ c * n
  | 0, _ => by simp [sumN]
  | n + 1, e => by have := sumN_le (c := c) n (fun i hi => e i (by omega)); have := e n (by omega); rw [sumN_succ, Nat.mul_succ]; omega
/-- One of them told apart. -/
theorem bits_sum : ∀ (n : Fin 9) (m : Fin 256), m.val < 2 ^ n.val → (bitsOf m.val).length = sumN (fun j => if m.val.testBit j = true then 1 else 0) n.val := by decide +kernel

end Go.Proofs.YtbjpokjllkblaaaDoor
