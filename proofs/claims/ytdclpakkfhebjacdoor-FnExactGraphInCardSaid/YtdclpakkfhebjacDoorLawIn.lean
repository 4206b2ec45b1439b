/-
  FnExactGraphIn: at every list the program's answer is the specification's, and the list stays as it was.
-/
import Derived.Test.YtdclpakkfhebjacDoorSpecIn
import Derived.Test.YtdclpakkfhebjacDoorImplIn
import Derived.Test.YtdclpakkfhebjacDoorToInts
import Derived.Test.YtdclpakkfhebjacDoorEqInts
namespace Go.Proofs.YtdclpakkfhebjacDoor
open Go.RowKit

set_option maxHeartbeats 400000 in
theorem FnExactGraphIn_walk (w : World) (v : Value) (xs : List Int) (h : Ints w v xs) (hr : ∀ x ∈ xs, I64 x) (hT : Tab w) :
    Calls Tryd.prog 4 #[v] w fun e w' => e = .returned (.bool true) ∧ Below w.heap.size w w' := by
  have hv := h
  obtain ⟨A, cap, rfl, hm, _⟩ := h
  have HV := Lib.hid hv
  have HI := Lib.hid hr
  have HT := Lib.hid hT
  clear hv hr hT
  unfold maxLen at hm
  by_cases hl : xs.length ≤ 1048576
  · have hl' : ¬ (1048576 : Int) < (xs.length : Int) := by omega
    go_enter Tryd.func4, Tryd.ntmps4
    go_wp2_with fail
    refine (toIntS_any _ _ xs HV.out hl).mono ?_
    rintro e w1 ⟨rfl, hb1, ho1⟩
    go_wp2_with fail
    refine (specIn_any _ _ xs (ints_of_owns ho1)).mono ?_
    rintro e w2 ⟨rfl, q2, rfl⟩
    have hb2 := below_drewN hb1 q2
    go_wp2_with fail
    refine (toIntS_any (w1.drewN q2) _ xs (HV.out.below hb2) hl).mono ?_
    rintro e w3 ⟨rfl, hb3, ho3⟩
    have hb3' := step_below hb2 hb3
    go_wp2_with fail
    refine (implIn_any w3 _ xs (ints_of_owns ho3) HI.out (HT.out.later hb3')).mono ?_
    rintro e w4 ⟨rfl, hb4⟩
    have hb4' := step_below hb3' hb4
    have ho4 := owns_below ho3 hb4
    go_wp2_with fail
    refine (toIntS_any w4 _ xs (HV.out.below hb4') hl).mono ?_
    rintro e w5 ⟨rfl, hb5, ho5⟩
    have hb5' := step_below hb4' hb5
    have ho45 := owns_below ho4 hb5
    go_wp2_with fail
    refine (eqIntS_same w5 _ _ xs (ints_of_owns ho45) (ints_of_owns ho5)).mono ?_
    rintro e w6 ⟨rfl, q6, rfl⟩
    go_wp2
    go_ret
    exact ⟨rfl, below_drewN hb5' q6⟩
  · have hl' : (1048576 : Int) < (xs.length : Int) := by omega
    go_enter Tryd.func4, Tryd.ntmps4
    go_wp2
    go_ret
    exact ⟨rfl, Below.refl _ _⟩

end Go.Proofs.YtdclpakkfhebjacDoor
