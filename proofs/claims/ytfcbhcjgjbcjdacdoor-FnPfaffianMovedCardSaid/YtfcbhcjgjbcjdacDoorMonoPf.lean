/-
  Two nodes exchanged: what becomes of the Pfaffian.
-/
import Derived.Test.YtfcbhcjgjbcjdacDoorMonoB
import Derived.Test.YtfcbhcjgjbcjdacDoorImplTPf
namespace Go.Proofs.YtfcbhcjgjbcjdacDoor
set_option linter.unusedVariables false
set_option linter.unusedSimpArgs false
open Go.RowKit

theorem skew_all {xss : List (List Int)} (h : skewOf xss = true) : ∀ i j, i < xss.length → j < xss.length → flat xss (6 * i + j) = -flat xss (6 * j + i) := fun i j hi hj => by
  unfold skewOf at h
  rw [Bool.and_eq_true] at h
  have ht := (turnB_iff _ _ _).1 h.2
  by_cases hc : j ≤ i
  · have := ((okAt_iff _ _ _ _).1 (ht i hi j hc)).1
    rw [this]; omega
  · have := ((okAt_iff _ _ _ _).1 (ht j hj i (by omega))).1
    rw [this]; omega
theorem skew_diag {xss : List (List Int)} (h : skewOf xss = true) : ∀ i, i < xss.length → flat xss (6 * i + i) = 0 := fun i hi => by
  have := skew_all h i i hi hi
  omega
theorem mateB_small : ∀ d : Fin 7, mateB d.val ≤ 405000 := by decide
theorem pf_bound (xss : List (List Int)) : -405000 ≤ pfOf xss ∧ pfOf xss ≤ 405000 := by
  unfold pfOf
  split
  · rename_i h
    have ht := skewOf_in h
    obtain ⟨h1, h6, _⟩ := tIn_facts ht
    have hl := full_len ⟨xss.length, by omega⟩
    have hlt := full_lt ⟨xss.length, by omega⟩
    simp only at hl hlt
    have := mates_bound (flat_small ht) (.inr rfl : (-1 : Int) = 1 ∨ (-1 : Int) = -1) xss.length (2 ^ xss.length - 1) (by omega) hl
    have hb := mateB_small ⟨xss.length, by omega⟩
    simp only at hb
    omega
  · omega
/-- Two nodes exchanged. -/
def swF (xss : List (List Int)) (i j : Nat) : Int := flat xss (6 * sw01 i + sw01 j)
theorem pf_moved {xss : List (List Int)} (h : skewOf xss = true) (h2 : 2 ≤ xss.length) : skewOf (mkRows xss.length (swF xss)) = true ∧ pfOf (mkRows xss.length (swF xss)) = -pfOf xss := by
  have ht := skewOf_in h
  obtain ⟨h1, h6, _⟩ := tIn_facts ht
  have ht2 : tIn (mkRows xss.length (swF xss)) = true := mkRows_tIn h1 h6 fun i j _ _ => flat_small ht _
  have hs : skewOf (mkRows xss.length (swF xss)) = true := by
    unfold skewOf
    rw [Bool.and_eq_true]
    refine ⟨ht2, (turnB_iff _ _ _).2 fun i hi k hk => ?_⟩
    rw [mkRows_len] at hi
    rw [okAt_iff, mkRows_flat _ _ h6 hi (by omega), mkRows_flat _ _ h6 (show k < xss.length by omega) hi]
    have hsw := skew_all h (sw01 i) (sw01 k) (sw01_lt h2 hi) (sw01_lt h2 (by omega))
    refine ⟨by unfold swF; rw [hsw]; omega, fun e => ?_⟩
    subst e
    exact skew_diag h _ (sw01_lt h2 hi)
  refine ⟨hs, ?_⟩
  unfold pfOf
  rw [if_pos h, if_pos hs, mkRows_len]
  exact mates_moved (by omega) h2 (fun i j hi hj => mkRows_flat _ _ h6 hi hj) (skew_all h)

end Go.Proofs.YtfcbhcjgjbcjdacDoor
