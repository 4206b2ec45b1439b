/-
  Twice a table: what becomes of the Hafnian.
-/
import Derived.Test.YtfcbhcjgjbcjdacDoorMonoB
import Derived.Test.YtfcbhcjgjbcjdacDoorImplTHaf
namespace Go.Proofs.YtfcbhcjgjbcjdacDoor
set_option linter.unusedVariables false
set_option linter.unusedSimpArgs false
open Go.RowKit

theorem mateB_small : ∀ d : Fin 7, mateB d.val ≤ 405000 := by decide
theorem haf_bound (xss : List (List Int)) : -405000 ≤ hafOf xss ∧ hafOf xss ≤ 405000 := by
  unfold hafOf
  split
  · rename_i h
    have ht := evenOf_in h
    obtain ⟨h1, h6, _⟩ := tIn_facts ht
    have hl := full_len ⟨xss.length, by omega⟩
    have hlt := full_lt ⟨xss.length, by omega⟩
    simp only at hl hlt
    have := mates_bound (flat_small ht) (.inl rfl : (1 : Int) = 1 ∨ (1 : Int) = -1) xss.length (2 ^ xss.length - 1) (by omega) hl
    have hb := mateB_small ⟨xss.length, by omega⟩
    simp only at hb
    omega
  · omega
/-- Twice. -/
def twF (xss : List (List Int)) (i j : Nat) : Int := 2 * flat xss (6 * i + j)
theorem haf_twice {xss : List (List Int)} (h : evenOf xss = true) (h2 : evenOf (mkRows xss.length (twF xss)) = true) : hafOf (mkRows xss.length (twF xss)) = ((2 ^ (xss.length / 2) : Nat) : Int) * hafOf xss := by
  have ht := evenOf_in h
  have ht2 := evenOf_in h2
  obtain ⟨h1, h6, _⟩ := tIn_facts ht
  unfold hafOf
  rw [if_pos h, if_pos h2, mkRows_len]
  refine mates_twice (fun k => ?_) 1 _ _
  by_cases hf : xss.length ≤ k / 6 ∨ xss.length ≤ k % 6
  · rw [flat_far ht hf, flat_far ht2 (by rw [mkRows_len]; exact hf)]; rfl
  · have := mkRows_flat xss.length (twF xss) h6 (show k / 6 < xss.length by omega) (show k % 6 < xss.length by omega)
    unfold twF at this
    rw [show 6 * (k / 6) + k % 6 = k by omega] at this
    exact this
theorem twice_facts {n : Nat} {z : Int} (hn : n ≤ 6) (hz : -405000 ≤ z ∧ z ≤ 405000) : ∃ (h P : Nat) (y : Int), n / 2 = h ∧ 2 ^ h = P ∧ (P : Int) * z = y ∧ (n : Int).tdiv 2 = (h : Int) ∧ (n : Int) / 2 = (h : Int) ∧ h ≤ 3 ∧ (h : Int) < 64 ∧
    wrap64 (2 ^ h) = (P : Int) ∧ IntKind.i64.wrap (2 ^ h) = (P : Int) ∧ wrap64 (z * (P : Int)) = y ∧ IntKind.i64.wrap (z * (P : Int)) = y := by
  have hh : n / 2 = 0 ∨ n / 2 = 1 ∨ n / 2 = 2 ∨ n / 2 = 3 := by omega
  have q1 : (n : Int).tdiv 2 = ((n / 2 : Nat) : Int) := by rw [Int.tdiv_eq_ediv_of_nonneg (by omega)]; omega
  have q2 : (n : Int) / 2 = ((n / 2 : Nat) : Int) := by omega
  rcases hh with e | e | e | e
  · rw [e] at q1 q2
    exact ⟨0, 1, 1 * z, e, rfl, rfl, q1, q2, by omega, by omega, by decide +kernel, by decide +kernel, by unfold wrap64; omega, by rw [IntKind.wrap_i64]; omega⟩
  · rw [e] at q1 q2
    exact ⟨1, 2, 2 * z, e, rfl, rfl, q1, q2, by omega, by omega, by decide +kernel, by decide +kernel, by unfold wrap64; omega, by rw [IntKind.wrap_i64]; omega⟩
  · rw [e] at q1 q2
    exact ⟨2, 4, 4 * z, e, rfl, rfl, q1, q2, by omega, by omega, by decide +kernel, by decide +kernel, by unfold wrap64; omega, by rw [IntKind.wrap_i64]; omega⟩
  · rw [e] at q1 q2
    exact ⟨3, 8, 8 * z, e, rfl, rfl, q1, q2, by omega, by omega, by decide +kernel, by decide +kernel, by unfold wrap64; omega, by rw [IntKind.wrap_i64]; omega⟩

end Go.Proofs.YtfcbhcjgjbcjdacDoor
