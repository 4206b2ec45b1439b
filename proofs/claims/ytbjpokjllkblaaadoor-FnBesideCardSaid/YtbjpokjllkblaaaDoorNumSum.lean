/-
  MATCHING NUMBERS AS SUMS OVER NODES; plain functions, no walk.
-/
import Derived.Test.YtbjpokjllkblaaaDoorNumsSame
import Derived.Test.YtbjpokjllkblaaaDoorBitSum
namespace Go.Proofs.YtbjpokjllkblaaaDoor
set_option linter.unusedVariables false
set_option linter.unusedSimpArgs false
open Go.RowKit
set_option maxRecDepth 100000

theorem low_wo_all : ∀ (s : Fin 256) (v : Fin 8), s.val ≠ 0 → v ≠ low s.val → low (wo s.val v.val) = low s.val := by decide +kernel
theorem low_wo {s : Nat} (hs : s < 256) (h0 : s ≠ 0) (v : Fin 8) (h : v ≠ low s) : low (wo s v.val) = low s := low_wo_all ⟨s, hs⟩ v h0 h
theorem eq_bits {x y : Nat} (hx : x < 256) (hy : y < 256) (h : ∀ j : Fin 8, x.testBit j.val = y.testBit j.val) : x = y := by
  apply Nat.eq_of_testBit_eq
  intro j
  by_cases hj : j < 8
  · exact h ⟨j, hj⟩
  · rw [bit8 hx (by omega), bit8 hy (by omega)]
theorem nz_bit {s : Nat} {v : Fin 8} (h : s.testBit v.val = true) : s ≠ 0 := fun e => by subst e; simp at h

theorem nums_sum {f : Nat → Nat} {s : Nat} (hs : s < 256) (h0 : s ≠ 0) (j : Nat) : nums f s (j + 1) = nums f (rst s) (j + 1) + sumN (fun w => if (tieOf f s).testBit w = true then nums f (wo (rst s) w) j else 0) 8 := by
  rw [nums_step hs h0]
  congr 1
  unfold tied
  rw [if_neg (by omega)]
  exact bits_to (tieOf f s) (fun w => nums f (wo (rst s) w) j)
theorem sumN_point (c : Nat) (b : Fin 8) : sumN (fun w => if w = b.val then c else 0) 8 = c := by
  have e : ∀ w, (if w = b.val then c else 0) = (if w = b.val then 1 else 0) * c := fun w => by split <;> simp
  have h : ∀ b : Fin 8, sumN (fun w => if w = b.val then 1 else 0) 8 = 1 := by decide
  have m : ∀ (g : Nat → Nat) n, sumN (fun w => g w * c) n = sumN g n * c := by
    intro g n
    induction n with
    | zero => simp [sumN]
    | succ n ih => rw [sumN_succ, sumN_succ, ih, Nat.add_mul]
  rw [sumN_congr 8 (fun w _ => e w), m, h, Nat.one_mul]

end Go.Proofs.YtbjpokjllkblaaaDoor
