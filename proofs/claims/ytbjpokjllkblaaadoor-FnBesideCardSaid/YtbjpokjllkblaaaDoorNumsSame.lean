/-
  GRAPHS THAT ARE THE SAME AT A SET HAVE THE SAME MATCHINGS; plain functions, no walk.
-/
import Derived.Test.YtbjpokjllkblaaaDoorNum1
namespace Go.Proofs.YtbjpokjllkblaaaDoor
set_option linter.unusedVariables false
set_option linter.unusedSimpArgs false
open Go.RowKit
set_option maxRecDepth 100000

/-- Graphs that are the same at a set's nodes have the same matchings of it. -/
theorem nums_same {F G : Nat → Nat} : ∀ s, s < 256 → (∀ i : Fin 8, s.testBit i.val = true → F i.val = G i.val) → ∀ k, nums F s k = nums G s k := by
  intro s
  induction s using Nat.strongRecOn with
  | _ s ih =>
    intro hs h k
    by_cases h0 : s = 0
    · subst h0; rw [nums_zero, nums_zero]
    · have hr := rst_lt hs h0
      have hsub : ∀ i : Fin 8, (rst s).testBit i.val = true → s.testBit i.val = true := fun i hi => sub8_wo s (low s) i hi
      have ht : tieOf F s = tieOf G s := by unfold tieOf; rw [h (low s) (low_bit hs h0)]
      rw [nums_step hs h0, nums_step hs h0, ih (rst s) hr (by omega) (fun i hi => h i (hsub i hi)), ht]
      congr 1
      unfold tied
      split
      · rfl
      · congr 1
        apply List.map_congr_left
        intro w _
        have hle := wo_le (rst s) w.val
        exact ih _ (by omega) (by omega) (fun i hi => h i (hsub i (sub8_wo (rst s) w i hi))) _
theorem gr_same {F G : Nat → Nat} {s : Nat} (hs : s < 256) (h : ∀ i : Fin 8, s.testBit i.val = true → F i.val = G i.val) : gr F s = gr G s := by
  unfold gr numL
  rw [tab_congr (g := fun k => ((nums G s k : Nat) : Int)) (fun k _ => by rw [nums_same s hs h])]

theorem bit8 {s j : Nat} (hs : s < 256) (hj : 8 ≤ j) : s.testBit j = false := Nat.testBit_lt_two_pow (Nat.lt_of_lt_of_le hs (Nat.pow_le_pow_right (n := 2) (by decide) hj))
theorem gr_of_nums {f g : Nat → Nat} {s t : Nat} (h : ∀ k, nums f s k = nums g t k) : gr f s = gr g t := by
  unfold gr numL
  rw [tab_congr (g := fun k => ((nums g t k : Nat) : Int)) (fun k _ => by rw [h])]

end Go.Proofs.YtbjpokjllkblaaaDoor
