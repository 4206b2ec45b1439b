/-
  THE NUMBERS OF A MATCHING POLYNOMIAL: plain functions, no walk.
-/
import Derived.Test.YtbjpokjllkblaaaDoorNum1
import Derived.Test.YtbjpokjllkblaaaDoorCore2
namespace Go.Proofs.YtbjpokjllkblaaaDoor
set_option linter.unusedVariables false
set_option linter.unusedSimpArgs false
open Go.RowKit

/-- The number for a power, of the matching polynomial of n nodes with some matching numbers. -/
def polyAt (n : Nat) (g : Nat → Nat) (p : Nat) : Int := if (n - p) % 2 = 0 then (if (n - p) / 2 % 2 = 0 then (g ((n - p) / 2) : Int) else -(g ((n - p) / 2) : Int)) else 0
/-- The matching polynomial of n nodes. -/
def mpL (n : Nat) (g : Nat → Nat) : List Int := tab (n + 1) (polyAt n g)

/-- 1 and -1 in turn. -/
def sgn (k : Nat) : Int := if k % 2 = 0 then 1 else -1
/-- What the first few numbers have given. -/
def polyTo (n : Nat) (g : Nat → Nat) (k p : Nat) : Int := if (n - p) / 2 < k then polyAt n g p else 0
theorem polyTo_zero (n : Nat) (g : Nat → Nat) (p : Nat) : polyTo n g 0 p = 0 := by unfold polyTo; rw [if_neg (by omega)]
theorem polyTo_succ {n : Nat} {g : Nat → Nat} {k p : Nat} (hp : p ≤ n) (hk : 2 * k ≤ n) : polyTo n g (k + 1) p = if p = n - 2 * k then sgn k * (g k : Int) else polyTo n g k p := by
  unfold polyTo
  by_cases e : p = n - 2 * k
  · subst e
    have h1 : n - (n - 2 * k) = 2 * k := by omega
    rw [if_pos rfl, if_pos (by omega)]
    unfold polyAt sgn
    rw [h1, show 2 * k / 2 = k by omega, if_pos (by omega)]
    split <;> simp
  · rw [if_neg e]
    by_cases h : (n - p) / 2 < k
    · rw [if_pos h, if_pos (by omega)]
    · rw [if_neg h]
      by_cases h2 : (n - p) / 2 < k + 1
      · rw [if_pos h2]
        unfold polyAt
        rw [if_neg (by omega)]
      · rw [if_neg h2]
theorem polyTo_all {n : Nat} {g : Nat → Nat} {k p : Nat} (h : ∀ i, k ≤ i → g i = 0) : polyTo n g k p = polyAt n g p := by
  unfold polyTo
  split
  · rfl
  · rename_i h1
    unfold polyAt
    rw [h _ (by omega)]
    simp

theorem polyAt_small {n p : Nat} {g : Nat → Nat} {b : Nat} (hg : ∀ k, g k ≤ b) : -(b : Int) ≤ polyAt n g p ∧ polyAt n g p ≤ b := by
  have := hg ((n - p) / 2)
  unfold polyAt
  split
  · split <;> omega
  · omega
theorem polyTo_small {n p k : Nat} {g : Nat → Nat} {b : Nat} (hg : ∀ k, g k ≤ b) : -(b : Int) ≤ polyTo n g k p ∧ polyTo n g k p ≤ b := by
  unfold polyTo
  split
  · exact polyAt_small hg
  · omega

theorem all_size : ∀ n : Fin 9, (bitsOf (2 ^ n.val - 1)).length = n.val := by decide +kernel
theorem gr_all {n : Nat} (h8 : n ≤ 8) (f : Nat → Nat) : 2 * gr f (2 ^ n - 1) ≤ n := by
  have h1 := Nat.pow_le_pow_right (n := 2) (by decide) h8
  have h2 := all_size ⟨n, by omega⟩
  have h3 := gr_half (f := f) (s := 2 ^ n - 1) (by omega)
  simp only at h2
  omega

/-- A matching polynomial has no zero behind, and no great numbers. -/
theorem mpL_ok {n : Nat} {g : Nat → Nat} (h8 : n ≤ 8) (hg : ∀ k, g k ≤ 43046721) (h0 : g 0 = 1) : okPoly (mpL n g) = true ∧ trim (mpL n g) = mpL n g := by
  have hlast : (mpL n g).getLast? ≠ some 0 := by
    unfold mpL
    rw [tab_succ, List.getLast?_append]
    have : polyAt n g n = 1 := by unfold polyAt; simp [h0]
    simp [this]
  refine ⟨okPoly_iff.2 ⟨by unfold mpL; rw [tab_len]; omega, within_of fun i hi => ?_, hlast⟩, trim_of_last hlast⟩
  unfold mpL at hi ⊢
  rw [tab_at]
  have := polyAt_small (n := n) (p := i) hg
  omega

/-- What both tell of a list. -/
def mpOf (xs : List Int) : List Int := if gIn xs = true then mpL xs.length (nums (gfun xs) (2 ^ xs.length - 1)) else []

end Go.Proofs.YtbjpokjllkblaaaDoor
