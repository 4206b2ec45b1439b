/-
  FnExactCostHalf: at every input what the program hands back is what the specification does; the arguments stay as they were.
-/
import Derived.Test.YtellghhilcjbnaaDoorCore1
import Derived.Test.YtellghhilcjbnaaDoorRowsT
import Derived.Test.YtellghhilcjbnaaDoorIn
namespace Go.Proofs.YtellghhilcjbnaaDoor
set_option linter.unusedVariables false
set_option linter.unusedSimpArgs false
open Go.RowKit

set_option maxRecDepth 100000 in
set_option maxHeartbeats 4000000 in
theorem FnExactCostHalf_walk (w : World) (v0 : Value) (xs0 : List Int) (h0 : Ints w v0 xs0) (hT : Tab w) (ok : Bool) (r : Int)
    (hs : ∀ W p0, Ints W p0 xs0 → Calls Tryd.prog 22 #[p0] W (GivesNum W ok r)) (hi : ∀ W p0, Ints W p0 xs0 → Tab W → Calls Tryd.prog 24 #[p0] W (GivesNum W ok r)) :
    Calls Tryd.prog 6 #[v0] w fun e w' => e = .returned (.bool true) ∧ Below w.heap.size w w' := by
  have hv0 := h0
  obtain ⟨A0, cap0, rfl, hm0, _⟩ := h0
  have HV0 := Lib.hid hv0
  clear hv0
  unfold maxLen at hm0
  have HT := Lib.hid hT
  clear hT
  have HS := Lib.hid hs
  have HI := Lib.hid hi
  clear hs hi
  by_cases hl0 : xs0.length ≤ 1048576
  · have hl0' : ¬ (1048576 : Int) < (xs0.length : Int) := by omega
    go_enter Tryd.func6, Tryd.ntmps6
    go_wp2_with fail
    refine (toIntS_any (w) _ xs0 (HV0.out.below (Below.refl _ _)) (by omega)).mono ?_
    rintro e w1 ⟨rfl, hb1, b1⟩
    have hb1' : Below w.heap.size w w1 := step_below (Below.refl _ _) hb1
    have c0_1 := OwnsAt.of b1
    go_wp2_with fail
    refine (HS.out (w1) _ (ints_at_owns c0_1)).mono ?_
    rintro e w2 ⟨rfl, hb2⟩
    have c0_2 := c0_1.below hb2
    have hb2' : Below w.heap.size w w2 := step_below (hb1') hb2
    go_wp2_with fail
    refine (toIntS_any (w2) _ xs0 (HV0.out.below (hb2')) (by omega)).mono ?_
    rintro e w3 ⟨rfl, hb3, b3⟩
    have hb3' : Below w.heap.size w w3 := step_below (hb2') hb3
    have x0_3 := OwnsAt.of b3
    go_wp2_with fail
    refine (HI.out (w3) _ (ints_at_owns x0_3) (HT.out.later (hb3'))).mono ?_
    rintro e w4 ⟨rfl, hb4⟩
    have x0_4 := x0_3.below hb4
    have hb4' : Below w.heap.size w w4 := step_below (hb3') hb4
    go_wp2_with fail
    refine (toIntS_any (w4) _ xs0 (HV0.out.below (hb4')) (by omega)).mono ?_
    rintro e w5 ⟨rfl, hb5, b5⟩
    have x0_5 := x0_4.below hb5
    have hb5' : Below w.heap.size w w5 := step_below (hb4') hb5
    have cc_5 := OwnsAt.of b5
    go_wp2_with fail
    refine (eqIntS_same (w5) _ _ xs0 (ints_at_owns x0_5) (ints_at_owns cc_5)).mono ?_
    rintro e w6 ⟨rfl, q6, rfl⟩
    have x0_6 := x0_5.drewN q6
    have cc_6 := cc_5.drewN q6
    have hb6' := below_drewN (hb5') q6
    go_wp2
    go_ret
    exact ⟨rfl, hb6'⟩
  · have hl0' : (1048576 : Int) < (xs0.length : Int) := by omega
    go_enter Tryd.func6, Tryd.ntmps6
    go_wp2
    go_ret
    exact ⟨rfl, Below.refl _ _⟩

end Go.Proofs.YtellghhilcjbnaaDoor
