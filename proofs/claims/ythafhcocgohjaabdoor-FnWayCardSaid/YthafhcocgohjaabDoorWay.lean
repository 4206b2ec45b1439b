/-
  impl.GraphWay and the specification's: what they hand back.
-/
import Derived.Test.YthafhcocgohjaabDoorWayOf
import Derived.Test.YthafhcocgohjaabDoorSpecWay
namespace Go.Proofs.YthafhcocgohjaabDoor
set_option linter.unusedVariables false
set_option linter.unusedSimpArgs false
open Go.RowKit

set_option maxRecDepth 100000 in
set_option maxHeartbeats 400000 in
theorem way_yes (n : Nat) (h1 : 1 ≤ n) (h8 : n ≤ 8) (w : World) :
    Calls Tryd.prog 25 #[.int .i64 (n : Int)] w (GivesInts w true (glist n (wayTo (n - 1)))) := by
  go_enter Tryd.func25, Tryd.ntmps25
  go_wp2_with (first
    | (go_at_call 68; refine (wayOf_yes n h1 h8 _).mono ?_; rintro e w1 ⟨rfl, hb1⟩)
    | (refine store_graph_new rfl _ _ rfl n (wayTo (n - 1)) rfl rfl ?_)
    | (refine load_graph rfl _ rfl _ n (wayTo (n - 1)) rfl (World.alloc_heap_new _ _) ?_)
    | (go_at_call 66; refine (list_any n _ h8 _).mono ?_; rintro e w3 ⟨rfl, hb3, ho⟩))
  go_ret2
  have hb4 := step_below (hb1.alloc hb1.size _) hb3
  simp only [World.size_alloc] at ho
  refine ⟨_, rfl, hb4, owns_mono ho ?_⟩
  have := hb1.size
  simp at *
  omega

set_option maxRecDepth 100000 in
set_option maxHeartbeats 400000 in
theorem way_no (n : Int) (h : n < 1 ∨ 8 < n) (w : World) :
    Calls Tryd.prog 25 #[.int .i64 n] w (GivesInts w false []) := by
  have H := Lib.hid h
  clear h
  go_enter Tryd.func25, Tryd.ntmps25
  go_wp2_with (first
    | (go_at_call 68; refine (wayOf_no n H.out _).mono ?_; rintro e w1 ⟨rfl, hb1⟩)
    | (refine store_graph_new rfl _ _ rfl 0 (fun _ => 0) rfl rfl ?_))
  go_ret2
  exact ⟨_, rfl, hb1.alloc hb1.size _, World.ownsRow_nil _ _ _ _⟩

set_option maxRecDepth 100000 in
set_option maxHeartbeats 400000 in
theorem specWay_yes (n : Nat) (h1 : 1 ≤ n) (h8 : n ≤ 8) (w : World) :
    Calls Tryd.prog 26 #[.int .i64 (n : Int)] w (GivesInts w true (glist n (wayTo (n - 1)))) := by
  go_enter Tryd.func26, Tryd.ntmps26
  go_wp2_with (first
    | (go_at_call 67; refine (l6In_yes n 1 8 (by omega) (by omega) _).mono ?_; rintro e w1 ⟨rfl, rfl⟩)
    | (go_at_call 69; refine (l1Way_any n h1 h8 _).mono ?_; rintro e w1 ⟨rfl, hb1, ho⟩))
  go_ret2
  refine ⟨_, rfl, hb1, ?_⟩
  show World.ownsRow _ _ _ _ _ (glist n _).length _
  rw [glist_len]
  unfold Owns at ho
  rw [glist_len] at ho
  exact ho

set_option maxRecDepth 100000 in
set_option maxHeartbeats 400000 in
theorem specWay_no (n : Int) (h : n < 1 ∨ 8 < n) (w : World) :
    Calls Tryd.prog 26 #[.int .i64 n] w (GivesInts w false []) := by
  have H := Lib.hid h
  clear h
  go_enter Tryd.func26, Tryd.ntmps26
  go_wp2_with (go_at_call 67; refine (l6In_no n 1 8 H.out _).mono ?_; rintro e w1 ⟨rfl, rfl⟩)
  go_ret2
  exact ⟨_, rfl, (Below.refl _ _).alloc (Nat.le_refl _) _, owns_empty w _ (Nat.le_refl _)⟩

end Go.Proofs.YthafhcocgohjaabDoor
