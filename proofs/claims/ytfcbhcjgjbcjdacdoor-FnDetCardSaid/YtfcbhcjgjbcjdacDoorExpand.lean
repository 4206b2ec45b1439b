/-
  SUMS OVER ALL CHOICES OF A COLUMN FOR EACH ROW: on numbers and sets; bounds.
-/
import Derived.Test.YtfcbhcjgjbcjdacDoorSignSum
import Derived.Test.YtfcbhcjgjbcjdacDoorElems
namespace Go.Proofs.YtfcbhcjgjbcjdacDoor
set_option linter.unusedVariables false
set_option linter.unusedSimpArgs false
open Go.RowKit

/-- The sum over all ways for the last d rows, as many as the set has columns. -/
def expand (F : Nat → Int) (sg : Int) : Nat → Nat → Nat → Int
  | 0, _, _ => 1
  | d + 1, row, left => (sumS sg (fun v => F (6 * row + v) * expand F sg d (row + 1) (wo8 left v)) (elems left)).1
/-- How great it can be. -/
def expB : Nat → Int
  | 0 => 1
  | d + 1 => 30 * expB d * (d + 1)
theorem expB_pos : ∀ d, 0 ≤ expB d
  | 0 => by decide
  | d + 1 => by
    have := expB_pos d
    show 0 ≤ 30 * expB d * ((d : Int) + 1)
    exact Int.mul_nonneg (by omega) (by omega)
theorem mul_bound {x y B C : Int} (hB : 0 ≤ B) (hC : 0 ≤ C) (h1 : -B ≤ x ∧ x ≤ B) (h2 : -C ≤ y ∧ y ≤ C) : -(B * C) ≤ x * y ∧ x * y ≤ B * C := by
  have k1 : 0 ≤ (B - x) * (C + y) := Int.mul_nonneg (by omega) (by omega)
  have k2 : 0 ≤ (B + x) * (C - y) := Int.mul_nonneg (by omega) (by omega)
  have k3 : 0 ≤ (B - x) * (C - y) := Int.mul_nonneg (by omega) (by omega)
  have k4 : 0 ≤ (B + x) * (C + y) := Int.mul_nonneg (by omega) (by omega)
  simp only [Int.sub_mul, Int.add_mul, Int.mul_sub, Int.mul_add] at k1 k2 k3 k4
  omega
theorem expand_bound {F : Nat → Int} {sg : Int} (hF : ∀ i, -30 ≤ F i ∧ F i ≤ 30) (hsg : sg = 1 ∨ sg = -1) : ∀ (d row left : Nat), left < 256 → (bitsOf left).length = d → -(expB d) ≤ expand F sg d row left ∧ expand F sg d row left ≤ expB d
  | 0, _, _, _, _ => by show -(1 : Int) ≤ 1 ∧ (1 : Int) ≤ 1; omega
  | d + 1, row, left, hm, hl => by
    have hterm : ∀ v ∈ elems left, -(30 * expB d) ≤ F (6 * row + v) * expand F sg d (row + 1) (wo8 left v) ∧ F (6 * row + v) * expand F sg d (row + 1) (wo8 left v) ≤ 30 * expB d := fun v hv => by
      obtain ⟨h8, hb⟩ := mem_elems.1 hv
      exact mul_bound (by omega) (expB_pos d) (hF _) (expand_bound hF hsg d (row + 1) (wo8 left v) (wo8_lt hm) (by have := wo8_len hm h8 hb; omega))
    have := sumS_bound hsg (elems left) hterm
    rw [elems_len, hl] at this
    exact this
theorem expB_le : ∀ d : Fin 7, expB d.val ≤ 600000000000 := by decide
/-- One number of the sum. -/
theorem term_bound {F : Nat → Int} {sg : Int} (hF : ∀ i, -30 ≤ F i ∧ F i ≤ 30) (hsg : sg = 1 ∨ sg = -1) {d row left v : Nat} (hm : left < 256) (hd : d ≤ 5) (hl : (bitsOf left).length = d + 1) (h8 : v < 8) (hb : left.testBit v = true) :
    (-(18000000000000 : Int) ≤ F (6 * row + v) * expand F sg d (row + 1) (wo8 left v) ∧ F (6 * row + v) * expand F sg d (row + 1) (wo8 left v) ≤ 18000000000000) ∧ (-(600000000000 : Int) ≤ expand F sg d (row + 1) (wo8 left v) ∧ expand F sg d (row + 1) (wo8 left v) ≤ 600000000000) := by
  have he := expand_bound hF hsg d (row + 1) (wo8 left v) (wo8_lt hm) (by have := wo8_len hm h8 hb; omega)
  have hB := expB_le ⟨d, by omega⟩
  simp only at hB
  have h2 : -(600000000000 : Int) ≤ expand F sg d (row + 1) (wo8 left v) ∧ expand F sg d (row + 1) (wo8 left v) ≤ 600000000000 := by omega
  have := mul_bound (B := 30) (C := 600000000000) (by omega) (by omega) (hF (6 * row + v)) h2
  exact ⟨by omega, h2⟩
end Go.Proofs.YtfcbhcjgjbcjdacDoor
