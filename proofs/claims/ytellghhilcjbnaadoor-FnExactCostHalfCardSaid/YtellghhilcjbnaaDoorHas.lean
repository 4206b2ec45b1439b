/-
  (graph).hasNode: whether a number is a node.
-/
import Derived.Test.YtellghhilcjbnaaDoorGraphs
namespace Go.Proofs.YtellghhilcjbnaaDoor
set_option linter.unusedVariables false
set_option linter.unusedSimpArgs false
open Go.RowKit

set_option maxHeartbeats 400000 in
theorem hasNode_any (n : Nat) (f : Nat → Nat) (v : Int) (w : World) :
    Calls Tryd.prog 68 #[.agg (gcells n f), .int .i64 v] w fun e w' => e = .returned (.bool (decide (0 ≤ v ∧ v < (n : Int)))) ∧ Below w.heap.size w w' := by
  have g0 := gcells_zero n f
  by_cases h1 : 0 ≤ v
  · go_enter Tryd.func68, Tryd.ntmps68
    go_wp2
    go_ret
    exact ⟨ret_bool (by first | (simp [h1]; done) | (simp; omega)), (Below.refl _ _).alloc (Nat.le_refl _) _⟩
  · go_enter Tryd.func68, Tryd.ntmps68
    go_wp2
    go_ret
    exact ⟨ret_bool (by first | (simp [h1]; done) | (simp; omega)), (Below.refl _ _).alloc (Nat.le_refl _) _⟩

set_option maxHeartbeats 400000 in
theorem hasNode_is (n : Nat) (f : Nat → Nat) (v : Int) (w : World) :
    Calls Tryd.prog 68 #[.agg (gcells n f), .int .i64 v] w fun e w' => e = .returned (.bool (decide (0 ≤ v ∧ v < (n : Int)))) ∧ w' = w.alloc (.cells (gcells n f) 78) := by
  have g0 := gcells_zero n f
  by_cases h1 : 0 ≤ v
  · go_enter Tryd.func68, Tryd.ntmps68
    go_wp2
    go_ret
    exact ⟨ret_bool (by first | (simp [h1]; done) | (simp; omega)), rfl⟩
  · go_enter Tryd.func68, Tryd.ntmps68
    go_wp2
    go_ret
    exact ⟨ret_bool (by first | (simp [h1]; done) | (simp; omega)), rfl⟩

end Go.Proofs.YtellghhilcjbnaaDoor
