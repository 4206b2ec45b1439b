/-
  (graph).neighbours hands back the iterator over a node's set.
-/
import Derived.Test.YtjijkgmeddeihaaDoorAll
import Derived.Test.YtjijkgmeddeihaaDoorGraphs
namespace Go.Proofs.YtjijkgmeddeihaaDoor
set_option linter.unusedVariables false
set_option linter.unusedSimpArgs false
open Go.RowKit

set_option maxHeartbeats 400000 in
theorem neighbours_any (n : Nat) (f : Nat → Nat) (v : Nat) (hv : v < 8) (w : World) :
    Calls Tryd.prog 55 #[.agg (gcells n f), .int .i64 (v : Int)] w fun e w' => e = .returned (seqOf (w.heap.size + 1)) ∧ w' = (w.alloc (.cells (gcells n f) 39)).alloc (.cells #[.int .i64 (f v : Nat)] 36) := by
  have g1 := gcells_at n f v hv
  go_enter Tryd.func55, Tryd.ntmps55
  go_wp2_with (go_at_call 58; refine (all_any (f v) _).mono ?_; rintro e w' ⟨rfl, rfl⟩)
  go_ret
  exact ⟨by simp, rfl⟩

end Go.Proofs.YtjijkgmeddeihaaDoor
