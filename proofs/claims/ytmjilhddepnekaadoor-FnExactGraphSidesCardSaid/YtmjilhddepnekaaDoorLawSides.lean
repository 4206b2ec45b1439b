/-
  FnExactGraphSides: at every input what the program hands back is what the specification does; the list stays as it was.
-/
import Derived.Test.YtmjilhddepnekaaDoorNum
import Derived.Test.YtmjilhddepnekaaDoorTz
import Derived.Test.YtmjilhddepnekaaDoorIn
import Derived.Test.YtmjilhddepnekaaDoorToInts
import Derived.Test.YtmjilhddepnekaaDoorEqInts
namespace Go.Proofs.YtmjilhddepnekaaDoor
open Go.RowKit

set_option maxHeartbeats 1000000 in
theorem FnExactGraphSides_walk (w : World) (v : Value) (xs : List Int) (h : Ints w v xs) (hT : Tab w) (ok : Bool) (r : Int)
    (hs : ∀ W u, Ints W u xs → Calls Tryd.prog 31 #[u] W (GivesNum W ok r)) (hi : ∀ W u, Ints W u xs → Tab W → Calls Tryd.prog 32 #[u] W (GivesNum W ok r)) :
    Calls Tryd.prog 8 #[v] w fun e w' => e = .returned (.bool true) ∧ Below w.heap.size w w' := by
  have hv := h
  obtain ⟨A, cap, rfl, hm, _⟩ := h
  have HV := Lib.hid hv
  have HT := Lib.hid hT
  have HS := Lib.hid hs
  have HI := Lib.hid hi
  clear hv hT hs hi
  unfold maxLen at hm
  by_cases hl : xs.length ≤ 1048576
  · have hl' : ¬ (1048576 : Int) < (xs.length : Int) := by omega
    go_enter Tryd.func8, Tryd.ntmps8
    go_wp2_with fail
    refine (toIntS_any _ _ xs HV.out hl).mono ?_
    rintro e w1 ⟨rfl, hb1, ho1⟩
    go_wp2_with fail
    refine (HS.out w1 _ (ints_of_owns ho1)).mono ?_
    rintro e w2 ⟨rfl, hb2⟩
    have hb2' := step_below hb1 hb2
    go_wp2_with fail
    refine (toIntS_any w2 _ xs (HV.out.below hb2') hl).mono ?_
    rintro e w3 ⟨rfl, hb3, hx3⟩
    have hb3' := step_below hb2' hb3
    go_wp2_with fail
    refine (HI.out w3 _ (ints_of_owns hx3) (HT.out.later hb3')).mono ?_
    rintro e w4 ⟨rfl, hb4⟩
    have hb4' := step_below hb3' hb4
    have hx4 := owns_below hx3 hb4
    go_wp2_with fail
    refine (toIntS_any w4 _ xs (HV.out.below hb4') hl).mono ?_
    rintro e w5 ⟨rfl, hb5, hc5⟩
    have hb5' : Below w.heap.size w w5 := step_below hb4' hb5
    have hx5 := owns_below hx4 hb5
    go_wp2_with fail
    refine (eqIntS_same w5 _ _ xs (ints_of_owns hx5) (ints_of_owns hc5)).mono ?_
    rintro e w5d ⟨rfl, q5, rfl⟩
    go_wp2
    go_ret
    exact ⟨rfl, below_drewN hb5' q5⟩
  · have hl' : (1048576 : Int) < (xs.length : Int) := by omega
    go_enter Tryd.func8, Tryd.ntmps8
    go_wp2
    go_ret
    exact ⟨rfl, Below.refl _ _⟩

end Go.Proofs.YtmjilhddepnekaaDoor
