/-
  impl.GraphFull: what it hands back.
-/
import Derived.Test.YthafhcocgohjaabDoorOther
import Derived.Test.YthafhcocgohjaabDoorSpecFull
namespace Go.Proofs.YthafhcocgohjaabDoor
set_option linter.unusedVariables false
set_option linter.unusedSimpArgs false
open Go.RowKit
set_option maxRecDepth 100000

theorem full_other (n : Nat) : glist n (othOf n (fun _ => 0)) = glist n (fullOf n) := by
  apply glist_congr
  intro i hi
  unfold othOf fullOf
  rw [if_pos hi]
  have h : (2 ^ n - 1) &&& (255 - 2 ^ i) ≤ 255 := Nat.le_trans Nat.and_le_right (Nat.sub_le _ _)
  generalize (2 ^ n - 1) &&& (255 - 2 ^ i) = x at h
  show x &&& 255 = x
  rw [nat_mask8]
  omega

set_option maxHeartbeats 400000 in
theorem full_yes (n : Nat) (h1 : 1 ≤ n) (h8 : n ≤ 8) (w : World) :
    Calls Tryd.prog 21 #[.int .i64 (n : Int)] w (GivesInts w true (glist n (fullOf n))) := by
  go_enter Tryd.func21, Tryd.ntmps21
  go_wp2_with (first
    | (go_at_call 64; refine (bare_yes n h1 h8 _).mono ?_; rintro e w1 ⟨rfl, hb1⟩)
    | (refine store_graph_new rfl _ _ rfl n (fun _ => 0) rfl rfl ?_)
    | (refine load_graph rfl _ rfl _ n (fun _ => 0) rfl (World.alloc_heap_new _ _) ?_)
    | (go_at_call 65; refine (other_any n (fun _ => 0) h8 (fun _ => by decide) _).mono ?_; rintro e w2 ⟨rfl, hb2⟩)
    | (go_at_call 66; refine (list_any n _ h8 _).mono ?_; rintro e w3 ⟨rfl, hb3, ho⟩))
  go_ret2
  have hb4 := step_below (step_below (hb1.alloc hb1.size _) hb2) hb3
  refine ⟨_, rfl, hb4, ?_⟩
  rw [← full_other]
  refine owns_mono ho ?_
  have := hb2.size
  have := hb1.size
  simp at *
  omega

set_option maxHeartbeats 400000 in
theorem full_no (n : Int) (h : n < 1 ∨ 8 < n) (w : World) :
    Calls Tryd.prog 21 #[.int .i64 n] w (GivesInts w false []) := by
  have H := Lib.hid h
  clear h
  go_enter Tryd.func21, Tryd.ntmps21
  go_wp2_with (first
    | (go_at_call 64; refine (bare_no n H.out _).mono ?_; rintro e w1 ⟨rfl, hb1⟩)
    | (refine store_graph_new rfl _ _ rfl 0 (fun _ => 0) rfl rfl ?_))
  go_ret2
  exact ⟨_, rfl, hb1.alloc hb1.size _, World.ownsRow_nil _ _ _ _⟩

end Go.Proofs.YthafhcocgohjaabDoor
