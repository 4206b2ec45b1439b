/-
  SUMS OVER ALL CHOICES OF A COLUMN FOR EACH ROW: on numbers and sets; bounds.
-/
import Derived.Test.YtjhjfopokiaiiabDoorSignSum
namespace Go.Proofs.YtjhjfopokiaiiabDoor
set_option linter.unusedVariables false
set_option linter.unusedSimpArgs false
open Go.RowKit

/-- A set without one of its nodes. -/
def wo8 (m v : Nat) : Nat := m &&& (255 - 2 ^ v)
def elems (m : Nat) : List Nat := (bitsOf m).map Fin.val
/-- The sum over all ways for the last d rows, as many as the set has columns. -/
def expand (F : Nat → Int) (sg : Int) : Nat → Nat → Nat → Int
  | 0, _, _ => 1
  | d + 1, row, left => (sumS sg (fun v => F (6 * row + v) * expand F sg d (row + 1) (wo8 left v)) (elems left)).1
/-- How great it can be. -/
def expB : Nat → Int
  | 0 => 1
  | d + 1 => 30 * expB d * (d + 1)
theorem elems_len (m : Nat) : (elems m).length = (bitsOf m).length := by simp [elems]
theorem mem_elems {m v : Nat} : v ∈ elems m ↔ v < 8 ∧ m.testBit v = true := by
  unfold elems
  rw [List.mem_map]
  constructor
  · rintro ⟨x, hx, rfl⟩
    exact ⟨x.isLt, mem_bitsOf.1 hx⟩
  · rintro ⟨h8, hb⟩
    exact ⟨⟨v, h8⟩, mem_bitsOf.2 hb, rfl⟩
theorem wo8_facts : ∀ (v : Fin 8) (m : Fin 256), m.val.testBit v.val = true → (bitsOf (m.val &&& (255 - 2 ^ v.val))).length + 1 = (bitsOf m.val).length := by decide +kernel
theorem wo8_lt {m v : Nat} (hm : m < 256) : wo8 m v < 256 := Nat.lt_of_le_of_lt Nat.and_le_left hm
theorem wo8_len {m v : Nat} (hm : m < 256) (hv : v < 8) (hb : m.testBit v = true) : (bitsOf (wo8 m v)).length + 1 = (bitsOf m).length := wo8_facts ⟨v, hv⟩ ⟨m, hm⟩ hb
theorem zero_len : ∀ m : Fin 256, (bitsOf m.val).length = 0 → m.val = 0 := by decide +kernel
theorem len_zero {m : Nat} (hm : m < 256) (h : (bitsOf m).length = 0) : m = 0 := zero_len ⟨m, hm⟩ h
theorem expB_pos : ∀ d, 0 ≤ expB d
  | 0 => by decide
  | d + 1 => by
    have := expB_pos d
    show 0 ≤ 30 * expB d * ((d : Int) + 1)
    exact Int.mul_nonneg (by omega) (by omega)
theorem mul_bound {x y B C : Int} (hB : 0 ≤ B) (hC : 0 ≤ C) (h1 : -B ≤ x ∧ x ≤ B) (h2 : -C ≤ y ∧ y ≤ C) : -(B * C) ≤ x * y ∧ x * y ≤ B * C := by
  have k1 : 0 ≤ (B - x) * (C + y) := Int.mul_nonneg (by omega) (by omega)
  have k2 : 0 ≤ (B + x) * (C - y) := Int.mul_nonneg (by omega) (by omega)
  have k3 : 0 ≤ (B - x) * (C - y) := Int.mul_nonneg (by omega) (by omega)
  have k4 : 0 ≤ (B + x) * (C + y) := Int.mul_nonneg (by omega) (by omega)
  simp only [Int.sub_mul, Int.add_mul, Int.mul_sub, Int.mul_add] at k1 k2 k3 k4
  omega
theorem expand_bound {F : Nat → Int} {sg : Int} (hF : ∀ i, -30 ≤ F i ∧ F i ≤ 30) (hsg : sg = 1 ∨ sg = -1) : ∀ (d row left : Nat), left < 256 → (bitsOf left).length = d → -(expB d) ≤ expand F sg d row left ∧ expand F sg d row left ≤ expB d
  | 0, _, _, _, _ => by show -(1 : Int) ≤ 1 ∧ (1 : Int) ≤ 1; omega
  | d + 1, row, left, hm, hl => by
    have hterm : ∀ v ∈ elems left, -(30 * expB d) ≤ F (6 * row + v) * expand F sg d (row + 1) (wo8 left v) ∧ F (6 * row + v) * expand F sg d (row + 1) (wo8 left v) ≤ 30 * expB d := fun v hv => by
      obtain ⟨h8, hb⟩ := mem_elems.1 hv
      exact mul_bound (by omega) (expB_pos d) (hF _) (expand_bound hF hsg d (row + 1) (wo8 left v) (wo8_lt hm) (by have := wo8_len hm h8 hb; omega))
    have := sumS_bound hsg (elems left) hterm
    rw [elems_len, hl] at this
    exact this
theorem expB_le : ∀ d : Fin 7, expB d.val ≤ 600000000000 := by decide
/-- One number of the sum. -/
theorem term_bound {F : Nat → Int} {sg : Int} (hF : ∀ i, -30 ≤ F i ∧ F i ≤ 30) (hsg : sg = 1 ∨ sg = -1) {d row left v : Nat} (hm : left < 256) (hd : d ≤ 5) (hl : (bitsOf left).length = d + 1) (h8 : v < 8) (hb : left.testBit v = true) :
    (-(18000000000000 : Int) ≤ F (6 * row + v) * expand F sg d (row + 1) (wo8 left v) ∧ F (6 * row + v) * expand F sg d (row + 1) (wo8 left v) ≤ 18000000000000) ∧ (-(600000000000 : Int) ≤ expand F sg d (row + 1) (wo8 left v) ∧ expand F sg d (row + 1) (wo8 left v) ≤ 600000000000) := by
  have he := expand_bound hF hsg d (row + 1) (wo8 left v) (wo8_lt hm) (by have := wo8_len hm h8 hb; omega)
  have hB := expB_le ⟨d, by omega⟩
  simp only at hB
  have h2 : -(600000000000 : Int) ≤ expand F sg d (row + 1) (wo8 left v) ∧ expand F sg d (row + 1) (wo8 left v) ≤ 600000000000 := by omega
  have := mul_bound (B := 30) (C := 600000000000) (by omega) (by omega) (hF (6 * row + v)) h2
  exact ⟨by omega, h2⟩
/-- Of the members below c. -/
def below8 (m c : Nat) : List Nat := (elems m).filter fun v => decide (v < c)
theorem below8_step : ∀ (c : Fin 8) (m : Fin 256), below8 m.val (c.val + 1) = (if m.val.testBit c.val = true then below8 m.val c.val ++ [c.val] else below8 m.val c.val) := by decide +kernel
theorem below8_zero (m : Nat) : below8 m 0 = [] := by simp [below8]
theorem below8_all {m n : Nat} (h : ∀ v ∈ elems m, v < n) : below8 m n = elems m := by
  unfold below8
  exact List.filter_eq_self.2 fun v hv => decide_eq_true (h v hv)

end Go.Proofs.YtjhjfopokiaiiabDoor
