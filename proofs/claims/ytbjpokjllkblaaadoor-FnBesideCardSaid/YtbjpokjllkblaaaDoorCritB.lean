/-
  WHICH GRAPHS ARE CRITICAL: plain functions, no walk.
-/
import Derived.Test.YtbjpokjllkblaaaDoorMPoly
import Derived.Test.YtbjpokjllkblaaaDoorNum1
namespace Go.Proofs.YtbjpokjllkblaaaDoor
set_option linter.unusedVariables false
set_option linter.unusedSimpArgs false
open Go.RowKit

def critAt (f : Nat → Nat) (n v : Nat) : Bool := decide (2 * gr f (wo (2 ^ n - 1) v) = n - 1)
def critB (f : Nat → Nat) (n : Nat) : Bool := (List.range n).all (critAt f n)
def critOf (xs : List Int) : Bool := gIn xs && critB (gfun xs) xs.length
theorem critB_yes {f : Nat → Nat} {n : Nat} (h : ∀ i, i < n → critAt f n i = true) : critB f n = true := by
  unfold critB; rw [List.all_eq_true]; exact fun i hi => h i (List.mem_range.1 hi)
theorem critB_no {f : Nat → Nat} {n i : Nat} (hi : i < n) (h : critAt f n i = false) : critB f n = false := by
  unfold critB
  rw [Bool.eq_false_iff]
  intro hall
  rw [List.all_eq_true.1 hall i (List.mem_range.2 hi)] at h
  cases h
theorem all_bit_all : ∀ (n : Fin 9) (v : Fin 8), v.val < n.val → (2 ^ n.val - 1).testBit v.val = true := by decide +kernel
theorem all_bit {n v : Nat} (h8 : n ≤ 8) (hv : v < n) : (2 ^ n - 1).testBit v = true := all_bit_all ⟨n, by omega⟩ ⟨v, by omega⟩ hv
theorem all_wo {n v : Nat} (h8 : n ≤ 8) (hv : v < n) : (bitsOf (wo (2 ^ n - 1) v)).length + 1 = n := by
  have h1 := size_wo (all256 h8) (by omega) (all_bit h8 hv)
  have h2 := all_size ⟨n, by omega⟩
  simp only at h2
  omega
/-- What the program asks for: half the nodes, rounded down. -/
theorem crit_half {f : Nat → Nat} {n v : Nat} (h8 : n ≤ 8) (hv : v < n) : (nums f (wo (2 ^ n - 1) v) (n / 2) = 0) ↔ critAt f n v = false := by
  rw [gr_perfect (wo_256 (all256 h8)) (all_wo h8 hv)]
  unfold critAt
  rw [decide_eq_false_iff_not]

end Go.Proofs.YtbjpokjllkblaaaDoor
