/-
  FnExactCostOf: at every input what the program hands back is what the specification does; the arguments stay as they were.
-/
import Derived.Test.YtjhjfopokiaiiaaGives
import Derived.Test.YtjhjfopokiaiiaaNum
import Derived.Test.YtjhjfopokiaiiaaToInts
import Derived.Test.YtjhjfopokiaiiaaEqInts
import Derived.Test.YtjhjfopokiaiiaaRows2
namespace Go.Proofs.Ytjhjfopokiaiiaa
set_option linter.unusedVariables false
set_option linter.unusedSimpArgs false
open Go.RowKit

set_option maxRecDepth 100000 in
set_option maxHeartbeats 4000000 in
theorem FnExactCostOf_walk (w : World) (v0 : Value) (xs0 : List (List Int)) (v1 : Value) (xs1 : List Int) (h0 : IntRows w v0 xs0) (h1 : Ints w v1 xs1) (ok : Bool) (r : Int)
    (hs : ∀ W p0 p1, IntRows W p0 xs0 → Ints W p1 xs1 → Calls Try.prog 26 #[p0, p1] W (GivesNum W ok r)) (hi : ∀ W p0 p1, IntRows W p0 xs0 → Ints W p1 xs1 → Calls Try.prog 28 #[p0, p1] W (GivesNum W ok r)) :
    Calls Try.prog 6 #[v0, v1] w fun e w' => e = .returned (.bool true) ∧ Below w.heap.size w w' := by
  have hv0 := h0
  obtain ⟨A0, cap0, rfl, hm0, _⟩ := h0.at
  have HV0 := Lib.hid hv0
  clear hv0 h0
  unfold maxLen at hm0
  have hv1 := h1
  obtain ⟨A1, cap1, rfl, hm1, _⟩ := h1
  have HV1 := Lib.hid hv1
  clear hv1
  unfold maxLen at hm1
  have HS := Lib.hid hs
  have HI := Lib.hid hi
  clear hs hi
  by_cases hl1 : xs1.length ≤ 1048576
  · have hl1' : ¬ (1048576 : Int) < (xs1.length : Int) := by omega
    by_cases hl0 : xs0.length + total xs0 ≤ 1048576
    · have hl0' : True := trivial
      go_enter Try.func6, Try.ntmps6
      go_wp2_with fail
      refine (szIntSS_any _ _ xs0 HV0.out (1048576) (by omega)).mono ?_
      rintro e w0z ⟨rfl, rfl⟩
      rw [szOf_yes hl0]
      go_wp2_with fail
      refine (toIntSS_any (w) _ xs0 (HV0.out.below (Below.refl _ _)) (by omega)).mono ?_
      rintro e w1 ⟨us1, rfl, hb1, c0_1⟩
      have hb1' : Below w.heap.size w w1 := step_below (Below.refl _ _) hb1
      go_wp2_with fail
      refine (toIntS_any (w1) _ xs1 (HV1.out.below (hb1')) (by omega)).mono ?_
      rintro e w2 ⟨rfl, hb2, b2⟩
      have c0_2 := c0_1.below hb2
      have hb2' : Below w.heap.size w w2 := step_below (hb1') hb2
      have c1_2 := OwnsAt.of b2
      go_wp2_with fail
      refine (HS.out (w2) _ _ (rows_of_owns c0_2) (ints_at_owns c1_2)).mono ?_
      rintro e w3 ⟨rfl, hb3⟩
      have c0_3 := c0_2.below hb3
      have c1_3 := c1_2.below hb3
      have hb3' : Below w.heap.size w w3 := step_below (hb2') hb3
      go_wp2_with fail
      refine (toIntSS_any (w3) _ xs0 (HV0.out.below (hb3')) (by omega)).mono ?_
      rintro e w4 ⟨us4, rfl, hb4, x0_4⟩
      have hb4' : Below w.heap.size w w4 := step_below (hb3') hb4
      go_wp2_with fail
      refine (toIntS_any (w4) _ xs1 (HV1.out.below (hb4')) (by omega)).mono ?_
      rintro e w5 ⟨rfl, hb5, b5⟩
      have x0_5 := x0_4.below hb5
      have hb5' : Below w.heap.size w w5 := step_below (hb4') hb5
      have x1_5 := OwnsAt.of b5
      go_wp2_with fail
      refine (HI.out (w5) _ _ (rows_of_owns x0_5) (ints_at_owns x1_5)).mono ?_
      rintro e w6 ⟨rfl, hb6⟩
      have x0_6 := x0_5.below hb6
      have x1_6 := x1_5.below hb6
      have hb6' : Below w.heap.size w w6 := step_below (hb5') hb6
      go_wp2_with fail
      refine (toIntSS_any (w6) _ xs0 (HV0.out.below (hb6')) (by omega)).mono ?_
      rintro e w7 ⟨us7, rfl, hb7, cc_7⟩
      have x0_7 := x0_6.below hb7
      have x1_7 := x1_6.below hb7
      have hb7' : Below w.heap.size w w7 := step_below (hb6') hb7
      go_wp2_with fail
      refine (eqIntSS_same (w7) _ _ xs0 (rows_of_owns x0_7) (rows_of_owns cc_7)).mono ?_
      rintro e w8 ⟨rfl, q8, rfl⟩
      have x0_8 := x0_7.drewN q8
      have x1_8 := x1_7.drewN q8
      have cc_8 := cc_7.drewN q8
      have hb8' := below_drewN (hb7') q8
      go_wp2_with fail
      refine (toIntS_any (w7.drewN q8) _ xs1 (HV1.out.below (hb8')) (by omega)).mono ?_
      rintro e w9 ⟨rfl, hb9, b9⟩
      have x0_9 := x0_8.below hb9
      have x1_9 := x1_8.below hb9
      have hb9' : Below w.heap.size w w9 := step_below (hb8') hb9
      have cc_9 := OwnsAt.of b9
      go_wp2_with fail
      refine (eqIntS_same (w9) _ _ xs1 (ints_at_owns x1_9) (ints_at_owns cc_9)).mono ?_
      rintro e w10 ⟨rfl, q10, rfl⟩
      have x0_10 := x0_9.drewN q10
      have x1_10 := x1_9.drewN q10
      have cc_10 := cc_9.drewN q10
      have hb10' := below_drewN (hb9') q10
      go_wp2
      go_ret
      exact ⟨rfl, hb10'⟩
    · have hl0' : True := trivial
      go_enter Try.func6, Try.ntmps6
      go_wp2_with fail
      refine (szIntSS_any _ _ xs0 HV0.out (1048576) (by omega)).mono ?_
      rintro e w0z ⟨rfl, rfl⟩
      rw [szOf_no hl0]
      go_wp2
      go_ret
      exact ⟨rfl, Below.refl _ _⟩
  · have hl1' : (1048576 : Int) < (xs1.length : Int) := by omega
    go_enter Try.func6, Try.ntmps6
    go_wp2
    go_ret
    exact ⟨rfl, Below.refl _ _⟩

end Go.Proofs.Ytjhjfopokiaiiaa
