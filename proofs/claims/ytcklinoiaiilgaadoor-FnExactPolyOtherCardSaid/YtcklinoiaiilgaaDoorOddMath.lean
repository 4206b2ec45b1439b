/-
  PERFECT MATCHINGS OF THE OTHERS, TOLD BY NUMBERS: plain functions, no walk.
-/
import Derived.Test.YtcklinoiaiilgaaDoorMPoly
import Derived.Test.YtcklinoiaiilgaaDoorSpecTimes
namespace Go.Proofs.YtcklinoiaiilgaaDoor
set_option linter.unusedVariables false
set_option linter.unusedSimpArgs false
open Go.RowKit
set_option maxRecDepth 100000

/-- The product of the first j odd numbers. -/
def oddF : Nat → Nat
  | 0 => 1
  | j + 1 => oddF j * (2 * j + 1)
theorem oddF_small : ∀ j : Fin 5, oddF j.val ≤ 105 := by decide +kernel
theorem oddF_le {j : Nat} (h : j ≤ 4) : oddF j ≤ 105 := oddF_small ⟨j, by omega⟩

/-- What is added for k edges. -/
def othTerm (n : Nat) (g : Nat → Nat) (k : Nat) : Int := sgn k * (g k : Int) * (oddF ((n - 2 * k) / 2) : Int)
/-- What is added for a power. -/
def powTerm (n : Nat) (g : Nat → Nat) (p : Nat) : Int := polyAt n g p * (oddF (p / 2) : Int)
def othVal (n : Nat) (g : Nat → Nat) : Int := sumTo (n / 2 + 1) (othTerm n g)

theorem oth_sums {n : Nat} (h8 : n ≤ 8) (he : n % 2 = 0) (g : Nat → Nat) : sumTo (n + 1) (powTerm n g) = othVal n g := by
  have : n = 0 ∨ n = 2 ∨ n = 4 ∨ n = 6 ∨ n = 8 := by omega
  rcases this with rfl | rfl | rfl | rfl | rfl <;>
    (simp [othVal, sumTo, List.range_succ, powTerm, othTerm, polyAt, sgn, oddF]; try omega)
theorem oth_more {n k : Nat} {g : Nat → Nat} (hk : k ≤ n / 2 + 1) (h : ∀ i, k ≤ i → g i = 0) : sumTo k (othTerm n g) = othVal n g := by
  unfold othVal
  symm
  have : ∀ m, k ≤ m → sumTo m (othTerm n g) = sumTo k (othTerm n g) := by
    intro m hm
    induction m with
    | zero => have : k = 0 := by omega
              subst this; rfl
    | succ m ih =>
      by_cases e : k = m + 1
      · rw [e]
      · rw [sumTo_succ, ih (by omega)]
        unfold othTerm
        rw [h m (by omega)]; simp
  exact this _ hk

theorem powTerm_small {n p : Nat} {g : Nat → Nat} (hp : p ≤ 8) (hg : ∀ k, g k ≤ 43046721) : -4519905705 ≤ powTerm n g p ∧ powTerm n g p ≤ 4519905705 := by
  have h1 := polyAt_small (n := n) (p := p) hg
  have h2 := oddF_le (j := p / 2) (by omega)
  obtain ⟨a, b⟩ := mul_bound (a := polyAt n g p) (b := (oddF (p / 2) : Int)) (x := 43046721) (y := 105) ⟨by have := h1.1; omega, by have := h1.2; omega⟩ (by omega)
  unfold powTerm
  omega
theorem sgn_small (k : Nat) (z : Int) (h : 0 ≤ z ∧ z ≤ 43046721) : -43046721 ≤ sgn k * z ∧ sgn k * z ≤ 43046721 := by
  unfold sgn
  split <;> omega
theorem othTerm_small {n k : Nat} {g : Nat → Nat} (hn : n ≤ 8) (hg : ∀ k, g k ≤ 43046721) : -4519905705 ≤ othTerm n g k ∧ othTerm n g k ≤ 4519905705 := by
  have hgk := hg k
  have h1 := sgn_small k (g k : Int) (by omega)
  have h2 := oddF_le (j := (n - 2 * k) / 2) (by omega)
  obtain ⟨a, b⟩ := mul_bound (a := sgn k * (g k : Int)) (b := (oddF ((n - 2 * k) / 2) : Int)) (x := 43046721) (y := 105) h1 (by omega)
  unfold othTerm
  omega

def othOk (xs : List Int) : Int := if gIn xs = true ∧ xs.length % 2 = 0 then othVal xs.length (nums (gfun xs) (2 ^ xs.length - 1)) else 0

end Go.Proofs.YtcklinoiaiilgaaDoor
