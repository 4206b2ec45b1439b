/-
  (graph).hasNode: whether a number is a node.
-/
import Derived.Test.YtmjilhddepnekaaDoorGraphs
namespace Go.Proofs.YtmjilhddepnekaaDoor
open Go.RowKit

set_option maxHeartbeats 400000 in
theorem hasNode_any (n : Nat) (f : Nat → Nat) (v : Int) (w : World) :
    Calls Tryd.prog 65 #[.agg (gcells n f), .int .i64 v] w fun e w' => e = .returned (.bool (decide (0 ≤ v ∧ v < (n : Int)))) ∧ Below w.heap.size w w' := by
  have g0 := gcells_zero n f
  by_cases h1 : 0 ≤ v
  · go_enter Tryd.func65, Tryd.ntmps65
    go_wp2
    go_ret
    exact ⟨ret_bool (by first | (simp [h1]; done) | (simp; omega)), (Below.refl _ _).alloc (Nat.le_refl _) _⟩
  · go_enter Tryd.func65, Tryd.ntmps65
    go_wp2
    go_ret
    exact ⟨ret_bool (by first | (simp [h1]; done) | (simp; omega)), (Below.refl _ _).alloc (Nat.le_refl _) _⟩

end Go.Proofs.YtmjilhddepnekaaDoor
