/-
  impl.GraphIn: whether a list is a graph.
-/
import Derived.Test.YthafhcocgohjaabDoorCore2
namespace Go.Proofs.YthafhcocgohjaabDoor
set_option linter.unusedVariables false
set_option linter.unusedSimpArgs false
open Go.RowKit

theorem from_shape (xs : List Int) : ∃ n f, fromOf xs = gcells n f := by
  unfold fromOf; split
  · exact ⟨_, _, rfl⟩
  · exact ⟨_, _, rfl⟩

set_option maxHeartbeats 400000 in
set_option maxRecDepth 100000 in
theorem implIn_any (w : World) (v : Value) (xs : List Int) (h : Ints w v xs) (hr : ∀ x ∈ xs, I64 x) (hT : Tab w) :
    Calls Tryd.prog 41 #[v] w fun e w' => e = .returned (.bool (gIn xs)) ∧ Below w.heap.size w w' := by
  have hf := from_any w v xs h hr hT
  obtain ⟨n, f, hs⟩ := from_shape xs
  rw [hs] at hf
  have HF := Lib.hid hf
  clear hf hs hT hr h
  go_enter Tryd.func41, Tryd.ntmps41
  go_wp2_with (first
    | (go_at_call 59; refine HF.out.mono ?_; rintro e w1 ⟨rfl, hb1⟩)
    | (refine store_graph_new rfl _ _ rfl n f rfl rfl ?_))
  go_ret
  exact ⟨rfl, hb1.alloc hb1.size _⟩

end Go.Proofs.YthafhcocgohjaabDoor
