/-
  impl.bareGraph, (graph).list, (graph).nodes: their contracts.
-/
import Derived.Test.YtjijkgmeddeihaaDoorGraphs
namespace Go.Proofs.YtjijkgmeddeihaaDoor
set_option linter.unusedVariables false
set_option linter.unusedSimpArgs false
open Go.RowKit

set_option maxHeartbeats 400000 in
theorem bare_yes (n : Nat) (h1 : 1 ≤ n) (h8 : n ≤ 8) (w : World) :
    Calls Tryd.prog 50 #[.int .i64 (n : Int)] w fun e w' => e = .returned (.tuple #[.agg (gcells n (fun _ => 0)), .bool true]) ∧ Below w.heap.size w w' := by
  go_enter Tryd.func50, Tryd.ntmps50
  go_wp2
  simp only [gcells_new]
  refine bodyPost_ret (v := .tuple #[.agg (gcells n (fun _ => 0)), .bool true]) (ret_graph2 rfl _ _ w.heap.size n (fun _ => 0) (.bool true) rfl rfl (World.alloc_heap_new w _)) rfl ⟨rfl, ?_⟩
  exact (Below.refl _ _).alloc (Nat.le_refl _) _

set_option maxHeartbeats 400000 in
theorem bare_no (n : Int) (h : n < 1 ∨ 8 < n) (w : World) :
    Calls Tryd.prog 50 #[.int .i64 n] w fun e w' => e = .returned (.tuple #[.agg (gcells 0 (fun _ => 0)), .bool false]) ∧ Below w.heap.size w w' := by
  rcases h with h | h
  · go_enter Tryd.func50, Tryd.ntmps50
    go_wp2
    simp only [gcells_zeros]
    refine bodyPost_ret (v := .tuple #[.agg (gcells 0 (fun _ => 0)), .bool false]) (ret_graph2 rfl _ _ w.heap.size 0 (fun _ => 0) (.bool false) rfl rfl (World.alloc_heap_new w _)) rfl ⟨rfl, ?_⟩
    exact (Below.refl _ _).alloc (Nat.le_refl _) _
  · have h' : ¬ n < 1 := by omega
    go_enter Tryd.func50, Tryd.ntmps50
    go_wp2
    simp only [gcells_zeros]
    refine bodyPost_ret (v := .tuple #[.agg (gcells 0 (fun _ => 0)), .bool false]) (ret_graph2 rfl _ _ w.heap.size 0 (fun _ => 0) (.bool false) rfl rfl (World.alloc_heap_new w _)) rfl ⟨rfl, ?_⟩
    exact (Below.refl _ _).alloc (Nat.le_refl _) _

set_option maxHeartbeats 400000 in
theorem nodes_any (n : Nat) (f : Nat → Nat) (h8 : n ≤ 8) (w : World) :
    Calls Tryd.prog 51 #[.agg (gcells n f)] w fun e w' => e = .returned (.int .i64 ((2 ^ n - 1 : Nat) : Int)) ∧ w' = w.alloc (.cells (gcells n f) 39) := by
  have g0 := gcells_zero n f
  go_enter Tryd.func51, Tryd.ntmps51
  go_wp2_with (go_at_call 47; refine (nodesBelow_any n (by omega) _).mono ?_; rintro e w' ⟨rfl, rfl⟩)
  go_ret
  exact ⟨rfl, rfl⟩


end Go.Proofs.YtjijkgmeddeihaaDoor
