/-
  A GRAPH's SETS ARE MUTUAL, AND NO NODE IS ITS OWN NEIGHBOUR: plain functions, no walk.
-/
import Derived.Test.YtjijkgmeddeihaaDoorMatch
import Derived.Test.YtjijkgmeddeihaaDoorPow
namespace Go.Proofs.YtjijkgmeddeihaaDoor
set_option linter.unusedVariables false
set_option linter.unusedSimpArgs false
open Go.RowKit

theorem gIn_both {xs : List Int} (h : gIn xs = true) {i j : Nat} (hij : (gfun xs i).testBit j = true) : (gfun xs j).testBit i = true := by
  obtain ⟨h1, h8, hok⟩ := gIn_parts h
  have hm : mutB xs.length (gfun xs) = true := by rw [← gIn_mut h1 h8 hok]; exact h
  have hi : i < xs.length := by
    rcases Nat.lt_or_ge i xs.length with h | h
    · exact h
    · rw [gfun_far h] at hij; simp at hij
  have hj : j < xs.length := by
    rcases Nat.lt_or_ge j xs.length with h' | h'
    · exact h'
    · rw [Nat.testBit_lt_two_pow (Nat.lt_of_lt_of_le (gfun_pow hok i) (Nat.pow_le_pow_right (by decide) h'))] at hij; cases hij
  unfold mutB at hm
  have h2 := List.all_eq_true.1 hm i (List.mem_range.2 hi)
  unfold mutRow at h2
  exact List.all_eq_true.1 h2 ⟨j, by omega⟩ (mem_bitsOf.2 hij)
theorem gIn_sym {xs : List Int} (h : gIn xs = true) : SymB (gfun xs) := fun a b => by
  rw [Bool.eq_iff_iff]
  exact ⟨gIn_both h, gIn_both h⟩
theorem gIn_irr {xs : List Int} (h : gIn xs = true) : ∀ v : Fin 8, (gfun xs v.val).testBit v.val = false := fun v => by
  obtain ⟨h1, h8, hok⟩ := gIn_parts h
  by_cases hv : v.val < xs.length
  · have := okTo_at hok hv
    unfold rowOk at this
    rw [Bool.and_eq_true, Bool.not_eq_true'] at this
    exact this.2
  · rw [gfun_far (by omega)]; simp
theorem bit_some : ∀ m : Fin 256, m.val ≠ 0 → ∃ w : Fin 8, m.val.testBit w.val = true := by decide +kernel
theorem bit_of {m : Nat} (hm : m < 256) (h : m ≠ 0) : ∃ w : Fin 8, m.testBit w.val = true := bit_some ⟨m, hm⟩ h

end Go.Proofs.YtjijkgmeddeihaaDoor
