/-
  FnExactGraphDegrees: at every input what the program hands back is what the specification does, in memory of its own; the list stays as it was.
-/
import Derived.Test.YtmjilhddepnekaaDoorTz
import Derived.Test.YtmjilhddepnekaaDoorIn
import Derived.Test.YtmjilhddepnekaaDoorToInts
import Derived.Test.YtmjilhddepnekaaDoorEqInts
import Derived.Test.YtmjilhddepnekaaDoorMarkInts
namespace Go.Proofs.YtmjilhddepnekaaDoor
open Go.RowKit

set_option maxHeartbeats 1000000 in
theorem FnExactGraphDegrees_walk (w : World) (v : Value) (xs : List Int) (h : Ints w v xs) (hT : Tab w) (ok : Bool) (ys : List Int) (hl2 : ys.length ≤ 1048576)
    (hs : ∀ W u, Ints W u xs → Calls Tryd.prog 22 #[u] W (GivesInts W ok ys)) (hi : ∀ W u, Ints W u xs → Tab W → Calls Tryd.prog 23 #[u] W (GivesInts W ok ys)) :
    Calls Tryd.prog 4 #[v] w fun e w' => e = .returned (.bool true) ∧ Below w.heap.size w w' := by
  have hv := h
  obtain ⟨A, cap, rfl, hm, _⟩ := h
  have HV := Lib.hid hv
  have HT := Lib.hid hT
  have HS := Lib.hid hs
  have HI := Lib.hid hi
  clear hv hT hs hi
  unfold maxLen at hm
  by_cases hl : xs.length ≤ 1048576
  · have hl' : ¬ (1048576 : Int) < (xs.length : Int) := by omega
    go_enter Tryd.func4, Tryd.ntmps4
    go_wp2_with fail
    refine (toIntS_any _ _ xs HV.out hl).mono ?_
    rintro e w1 ⟨rfl, hb1, ho1⟩
    go_wp2_with fail
    refine (HS.out w1 _ (ints_of_owns ho1)).mono ?_
    rintro e w2 ⟨w0, rfl, hb2, ho2⟩
    have hb2' := step_below hb1 hb2
    go_wp2_with fail
    refine (toIntS_any w2 _ xs (HV.out.below hb2') hl).mono ?_
    rintro e w3 ⟨rfl, hb3, hx3⟩
    have hb3' := step_below hb2' hb3
    have ho3 := owns_below ho2 hb3
    go_wp2_with fail
    refine (HI.out w3 _ (ints_of_owns hx3) (HT.out.later hb3')).mono ?_
    rintro e w4 ⟨g0, rfl, hb4, hg4⟩
    have hb4' := step_below hb3' hb4
    have ho4 := owns_below ho3 hb4
    have hx4 := owns_below hx3 hb4
    go_wp2_with fail
    refine (eqIntS_same w4 _ _ ys (ints_of_owns hg4) (ints_of_owns ho4)).mono ?_
    rintro e w4d ⟨rfl, q4, rfl⟩
    go_wp2_with fail
    refine (toIntS_any (w4.drewN q4) _ xs (HV.out.below (below_drewN hb4' q4)) hl).mono ?_
    rintro e w5 ⟨rfl, hb5, hc5⟩
    have hb5' : Below w.heap.size w w5 := step_below (below_drewN hb4' q4) hb5
    have ho5 := owns_below (w := w4.drewN q4) ho4 hb5
    have hx5 := owns_below (w := w4.drewN q4) hx4 hb5
    have hg5 := owns_below (w := w4.drewN q4) hg4 hb5
    go_wp2_with fail
    refine (eqIntS_same w5 _ _ xs (ints_of_owns hx5) (ints_of_owns hc5)).mono ?_
    rintro e w5d ⟨rfl, q5, rfl⟩
    go_wp2_with fail
    refine (markIntS_any (w5.drewN q5) _ _ xs 1 hx5 (by omega) (by omega)).mono ?_
    rintro e w6 ⟨rfl, hgr6, _⟩
    have ho6 := World.ownsRow.kept (w := w5.drewN q5) ho5 hgr6 (apart ho2 hx3 (Nat.le_refl _))
    have hg6 := World.ownsRow.kept (w := w5.drewN q5) hg5 hgr6 (apart_back hx3 hg4 (Nat.le_refl _))
    have hb6 : Below w.heap.size w w6 := (below_drewN hb5' q5).grown hgr6 hb5'.size (fun k hk => Nat.le_trans hb2'.size (hx3.lt k hk).1)
    clear hx5 hx4 hg5 hg4 ho5 ho4 ho3 hc5 hgr6
    go_wp2_with fail
    refine (eqIntS_same w6 _ _ ys (ints_of_owns hg6) (ints_of_owns ho6)).mono ?_
    rintro e w6d ⟨rfl, q6, rfl⟩
    go_wp2_with fail
    refine (markIntS_any (w6.drewN q6) _ _ ys 1 hg6 (by omega) (by omega)).mono ?_
    rintro e w7 ⟨rfl, hgr7, hg7⟩
    have ho7 := World.ownsRow.kept (w := w6.drewN q6) ho6 hgr7 (apart ho2 hg6 (Nat.le_trans hb3.size (Nat.le_refl _)))
    have hb7 : Below w.heap.size w w7 := (below_drewN hb6 q6).grown hgr7 hb6.size (fun k hk => Nat.le_trans hb3'.size (hg6.lt k hk).1)
    go_wp2_with fail
    refine (heldIntS_any w7 _ 1 ys.length (ints_of_owns hg7) (by omega) (by omega)).mono ?_
    rintro e w7d ⟨rfl, rfl⟩
    go_wp2_with fail
    refine (toIntS_any w7 _ xs (HV.out.below hb7) hl).mono ?_
    rintro e w8 ⟨rfl, hb8, hc8⟩
    have hb8' := step_below hb7 hb8
    have ho8 := owns_below ho7 hb8
    have hg8 := owns_below hg7 hb8
    go_wp2_with fail
    refine (HI.out w8 _ (ints_of_owns hc8) (HT.out.later hb8')).mono ?_
    rintro e w9 ⟨h0, rfl, hb9, hh9⟩
    have hb9' := step_below hb8' hb9
    have ho9 := owns_below ho8 hb9
    have hg9 := owns_below hg8 hb9
    go_wp2_with fail
    refine (eqIntS_same w9 _ _ ys (ints_of_owns hh9) (ints_of_owns ho9)).mono ?_
    rintro e w9d ⟨rfl, q9, rfl⟩
    go_wp2_with fail
    refine (heldIntS_any (w9.drewN q9) _ 1 ys.length (ints_of_owns (w := w9.drewN q9) hg9) (by omega) (by omega)).mono ?_
    rintro e w9e ⟨rfl, rfl⟩
    go_wp2
    go_ret
    exact ⟨rfl, below_drewN hb9' q9⟩
  · have hl' : (1048576 : Int) < (xs.length : Int) := by omega
    go_enter Tryd.func4, Tryd.ntmps4
    go_wp2
    go_ret
    exact ⟨rfl, Below.refl _ _⟩

end Go.Proofs.YtmjilhddepnekaaDoor
