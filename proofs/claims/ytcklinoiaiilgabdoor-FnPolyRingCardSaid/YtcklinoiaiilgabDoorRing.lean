/-
  impl.GraphRing, impl.GraphWay and the specification's: what they hand back.
-/
import Derived.Test.YtcklinoiaiilgabDoorWayOf
import Derived.Test.YtcklinoiaiilgabDoorSpecWay
namespace Go.Proofs.YtcklinoiaiilgabDoor
set_option linter.unusedVariables false
set_option linter.unusedSimpArgs false
open Go.RowKit

def ringOf (n : Nat) : Nat → Nat := lnk (wayTo (n - 1)) 0 (n - 1)

set_option maxRecDepth 100000 in
set_option maxHeartbeats 400000 in
theorem ring_yes (n : Nat) (h3 : 3 ≤ n) (h8 : n ≤ 8) (w : World) :
    Calls Tryd.prog 30 #[.int .i64 (n : Int)] w (GivesInts w true (glist n (ringOf n))) := by
  have hl := fun W => linked_any n (wayTo (n - 1)) 0 (n - 1) (by omega) (by omega) (wayTo_lt (n - 1) (by omega)) W
  have e0 : ((n - 1 : Nat) : Int) = (n : Int) - 1 := by omega
  rw [e0] at hl
  clear e0
  have HL := Lib.hid hl
  clear hl
  go_enter Tryd.func30, Tryd.ntmps30
  go_wp2_with (first
    | (go_at_call 78; refine (wayOf_yes n (by omega) h8 _).mono ?_; rintro e w1 ⟨rfl, hb1⟩)
    | (refine store_graph_new rfl _ _ rfl n (wayTo (n - 1)) rfl rfl ?_)
    | (refine load_graph rfl _ rfl _ n (wayTo (n - 1)) rfl (World.alloc_heap_new _ _) ?_)
    | (go_at_call 82; refine (HL.out _).mono ?_; rintro e w2 ⟨rfl, hb2⟩)
    | (go_at_call 74; refine (list_any n _ h8 _).mono ?_; rintro e w3 ⟨rfl, hb3, ho⟩))
  go_ret2
  have hb4 := step_below (step_below (hb1.alloc hb1.size _) hb2) hb3
  refine ⟨_, rfl, hb4, owns_mono ho ?_⟩
  have := hb2.size
  have := hb1.size
  simp at *
  omega

set_option maxRecDepth 100000 in
set_option maxHeartbeats 400000 in
theorem ring_no (n : Int) (h : n < 3 ∨ 8 < n) (w : World) :
    Calls Tryd.prog 30 #[.int .i64 n] w (GivesInts w false []) := by
  by_cases h2 : n < 1 ∨ 8 < n
  · have H2 := Lib.hid h2
    go_enter Tryd.func30, Tryd.ntmps30
    go_wp2_with (first
      | (go_at_call 78; refine (wayOf_no n H2.out _).mono ?_; rintro e w1 ⟨rfl, hb1⟩)
      | (refine store_graph_new rfl _ _ rfl 0 (fun _ => 0) rfl rfl ?_))
    go_ret2
    exact ⟨_, rfl, hb1.alloc hb1.size _, World.ownsRow_nil _ _ _ _⟩
  · have h3 : n < 3 := by omega
    obtain ⟨m, rfl⟩ : ∃ m : Nat, n = m := ⟨n.toNat, by omega⟩
    have hm1 : 1 ≤ m := by omega
    clear h2 h
    go_enter Tryd.func30, Tryd.ntmps30
    go_wp2_with (first
      | (go_at_call 78; refine (wayOf_yes m hm1 (by omega) _).mono ?_; rintro e w1 ⟨rfl, hb1⟩)
      | (refine store_graph_new rfl _ _ rfl m (wayTo (m - 1)) rfl rfl ?_))
    go_ret2
    exact ⟨_, rfl, hb1.alloc hb1.size _, World.ownsRow_nil _ _ _ _⟩


end Go.Proofs.YtcklinoiaiilgabDoor
