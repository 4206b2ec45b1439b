/-
  The members of a set, in order.
-/
import Derived.Test.YtahilcnmjnjcaaaDoorTz
namespace Go.Proofs.YtahilcnmjnjcaaaDoor
set_option linter.unusedVariables false
set_option linter.unusedSimpArgs false
open Go.RowKit

/-- A set without one of its nodes. -/
def wo8 (m v : Nat) : Nat := m &&& (255 - 2 ^ v)
def elems (m : Nat) : List Nat := (bitsOf m).map Fin.val
theorem elems_len (m : Nat) : (elems m).length = (bitsOf m).length := by simp [elems]
theorem mem_elems {m v : Nat} : v ∈ elems m ↔ v < 8 ∧ m.testBit v = true := by
  unfold elems
  rw [List.mem_map]
  constructor
  · rintro ⟨x, hx, rfl⟩
    exact ⟨x.isLt, mem_bitsOf.1 hx⟩
  · rintro ⟨h8, hb⟩
    exact ⟨⟨v, h8⟩, mem_bitsOf.2 hb, rfl⟩
theorem wo8_facts : ∀ (v : Fin 8) (m : Fin 256), m.val.testBit v.val = true → (bitsOf (m.val &&& (255 - 2 ^ v.val))).length + 1 = (bitsOf m.val).length := by decide +kernel
theorem wo8_lt {m v : Nat} (hm : m < 256) : wo8 m v < 256 := Nat.lt_of_le_of_lt Nat.and_le_left hm
theorem wo8_len {m v : Nat} (hm : m < 256) (hv : v < 8) (hb : m.testBit v = true) : (bitsOf (wo8 m v)).length + 1 = (bitsOf m).length := wo8_facts ⟨v, hv⟩ ⟨m, hm⟩ hb
theorem zero_len : ∀ m : Fin 256, (bitsOf m.val).length = 0 → m.val = 0 := by decide +kernel
theorem len_zero {m : Nat} (hm : m < 256) (h : (bitsOf m).length = 0) : m = 0 := zero_len ⟨m, hm⟩ h
/-- Of the members below c. -/
def below8 (m c : Nat) : List Nat := (elems m).filter fun v => decide (v < c)
theorem below8_step : ∀ (c : Fin 8) (m : Fin 256), below8 m.val (c.val + 1) = (if m.val.testBit c.val = true then below8 m.val c.val ++ [c.val] else below8 m.val c.val) := by decide +kernel
theorem below8_zero (m : Nat) : below8 m 0 = [] := by simp [below8]
theorem below8_all {m n : Nat} (h : ∀ v ∈ elems m, v < n) : below8 m n = elems m := by
  unfold below8
  exact List.filter_eq_self.2 fun v hv => decide_eq_true (h v hv)

end Go.Proofs.YtahilcnmjnjcaaaDoor
