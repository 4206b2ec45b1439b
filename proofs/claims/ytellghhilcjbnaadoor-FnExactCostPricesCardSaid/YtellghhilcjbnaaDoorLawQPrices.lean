/-
  FnExactCostPrices: at every input what the program hands back is what the specification does, in memory of its own; the arguments stay as they were.
-/
import Derived.Test.YtellghhilcjbnaaDoorCore1
import Derived.Test.YtellghhilcjbnaaDoorRowsT
import Derived.Test.YtellghhilcjbnaaDoorIn
namespace Go.Proofs.YtellghhilcjbnaaDoor
set_option linter.unusedVariables false
set_option linter.unusedSimpArgs false
open Go.RowKit

set_option maxRecDepth 100000 in
set_option maxHeartbeats 4000000 in
theorem FnExactCostPrices_walk (w : World) (v0 : Value) (xs0 : List (List Int)) (h0 : IntRows w v0 xs0) (hT : Tab w) (ok : Bool) (ys : List Int) (hly : ys.length ≤ 1048576)
    (hs : ∀ W p0, IntRows W p0 xs0 → Calls Tryd.prog 8 #[p0] W (GivesInts W ok ys)) (hi : ∀ W p0, IntRows W p0 xs0 → Tab W → Calls Tryd.prog 10 #[p0] W (GivesInts W ok ys)) :
    Calls Tryd.prog 3 #[v0] w fun e w' => e = .returned (.bool true) ∧ Below w.heap.size w w' := by
  have hv0 := h0
  obtain ⟨A0, cap0, rfl, hm0, _⟩ := h0.at
  have HV0 := Lib.hid hv0
  clear hv0 h0
  unfold maxLen at hm0
  have HT := Lib.hid hT
  clear hT
  have HS := Lib.hid hs
  have HI := Lib.hid hi
  clear hs hi
  by_cases hl0 : xs0.length + total xs0 ≤ 1048576
  · have hl0' : True := trivial
    go_enter Tryd.func3, Tryd.ntmps3
    go_wp2_with fail
    refine (szIntSS_any _ _ xs0 HV0.out (1048576) (by omega)).mono ?_
    rintro e w0z ⟨rfl, rfl⟩
    rw [szOf_yes hl0]
    go_wp2_with fail
    refine (toIntSS_any (w) _ xs0 (HV0.out.below (Below.refl _ _)) (by omega)).mono ?_
    rintro e w1 ⟨us1, rfl, hb1, c0_1⟩
    have hb1' : Below w.heap.size w w1 := step_below (Below.refl _ _) hb1
    go_wp2_with fail
    refine (HS.out (w1) _ (rows_of_owns c0_1)).mono ?_
    rintro e w2 ⟨v2, rfl, hb2, b2⟩
    have c0_2 := c0_1.below hb2
    have hb2' : Below w.heap.size w w2 := step_below (hb1') hb2
    have o_2 := OwnsAt.of b2
    go_wp2_with fail
    refine (toIntSS_any (w2) _ xs0 (HV0.out.below (hb2')) (by omega)).mono ?_
    rintro e w3 ⟨us3, rfl, hb3, x0_3⟩
    have o_3 := o_2.below hb3
    have hb3' : Below w.heap.size w w3 := step_below (hb2') hb3
    go_wp2_with fail
    refine (HI.out (w3) _ (rows_of_owns x0_3) (HT.out.later (hb3'))).mono ?_
    rintro e w4 ⟨v4, rfl, hb4, b4⟩
    have o_4 := o_3.below hb4
    have x0_4 := x0_3.below hb4
    have hb4' : Below w.heap.size w w4 := step_below (hb3') hb4
    have g_4 := OwnsAt.of b4
    go_wp2_with fail
    refine (eqIntS_same (w4) _ _ ys (ints_at_owns g_4) (ints_at_owns o_4)).mono ?_
    rintro e w5 ⟨rfl, q5, rfl⟩
    have o_5 := o_4.drewN q5
    have x0_5 := x0_4.drewN q5
    have g_5 := g_4.drewN q5
    have hb5' := below_drewN (hb4') q5
    go_wp2_with fail
    refine (toIntSS_any (w4.drewN q5) _ xs0 (HV0.out.below (hb5')) (by omega)).mono ?_
    rintro e w6 ⟨us6, rfl, hb6, cc_6⟩
    have o_6 := o_5.below hb6
    have x0_6 := x0_5.below hb6
    have g_6 := g_5.below hb6
    have hb6' : Below w.heap.size w w6 := step_below (hb5') hb6
    go_wp2_with fail
    refine (eqIntSS_same (w6) _ _ xs0 (rows_of_owns x0_6) (rows_of_owns cc_6)).mono ?_
    rintro e w7 ⟨rfl, q7, rfl⟩
    have o_7 := o_6.drewN q7
    have x0_7 := x0_6.drewN q7
    have g_7 := g_6.drewN q7
    have cc_7 := cc_6.drewN q7
    have hb7' := below_drewN (hb6') q7
    go_wp2_with fail
    refine (markIntSS_any (w6.drewN q7) _ _ _ _ xs0 (1) x0_7 (by omega) (by omega)).mono ?_
    rintro e w8 ⟨rfl, hw8, m8⟩
    have o_8 := o_7.kept hw8 (.inl (Nat.le_refl _))
    have g_8 := g_7.kept hw8 (.inr (Nat.le_refl _))
    have hb8' : Below w.heap.size w w8 := Below.within (hb7') hw8 ((Nat.le_trans hb1.size hb2.size))
    go_wp2_with fail
    refine (eqIntS_same (w8) _ _ ys (ints_at_owns g_8) (ints_at_owns o_8)).mono ?_
    rintro e w9 ⟨rfl, q9, rfl⟩
    have o_9 := o_8.drewN q9
    have g_9 := g_8.drewN q9
    have hb9' := below_drewN (hb8') q9
    go_wp2_with fail
    refine (markIntS_any (w8.drewN q9) _ _ ys (1) g_9.1 (by omega) (by omega)).mono ?_
    rintro e w10 ⟨rfl, g10, m10⟩
    have hw10 := Within.of_grown g10 (fun k hk => ⟨(g_9.1.lt k hk).1, g_9.2 k hk⟩)
    have o_10 := o_9.kept hw10 (.inl (hb3.size))
    have hb10' : Below w.heap.size w w10 := Below.within (hb9') hw10 ((Nat.le_trans hb1.size (Nat.le_trans hb2.size hb3.size)))
    have g_10 : OwnsInts w10 w3.heap.size w4.heap.size v4 (marks 1 ys.length) := ⟨m10, g_9.2⟩
    go_wp2_with fail
    refine (heldIntS_any (w10) _ 1 ys.length (ints_at_owns g_10) (by omega) (by omega)).mono ?_
    rintro e w11 ⟨rfl, rfl⟩
    go_wp2_with fail
    refine (toIntSS_any (w10) _ xs0 (HV0.out.below (hb10')) (by omega)).mono ?_
    rintro e w12 ⟨us12, rfl, hb12, d0_12⟩
    have o_12 := o_10.below hb12
    have g_12 := g_10.below hb12
    have hb12' : Below w.heap.size w w12 := step_below (hb10') hb12
    go_wp2_with fail
    refine (HI.out (w12) _ (rows_of_owns d0_12) (HT.out.later (hb12'))).mono ?_
    rintro e w13 ⟨v13, rfl, hb13, b13⟩
    have o_13 := o_12.below hb13
    have g_13 := g_12.below hb13
    have d0_13 := d0_12.below hb13
    have hb13' : Below w.heap.size w w13 := step_below (hb12') hb13
    have h_13 := OwnsAt.of b13
    go_wp2_with fail
    refine (eqIntS_same (w13) _ _ ys (ints_at_owns h_13) (ints_at_owns o_13)).mono ?_
    rintro e w14 ⟨rfl, q14, rfl⟩
    have o_14 := o_13.drewN q14
    have g_14 := g_13.drewN q14
    have h_14 := h_13.drewN q14
    have hb14' := below_drewN (hb13') q14
    go_wp2_with fail
    refine (heldIntS_any (w13.drewN q14) _ 1 ys.length (ints_at_owns g_14) (by omega) (by omega)).mono ?_
    rintro e w15 ⟨rfl, rfl⟩
    go_wp2
    go_ret
    exact ⟨rfl, hb14'⟩
  · have hl0' : True := trivial
    go_enter Tryd.func3, Tryd.ntmps3
    go_wp2_with fail
    refine (szIntSS_any _ _ xs0 HV0.out (1048576) (by omega)).mono ?_
    rintro e w0z ⟨rfl, rfl⟩
    rw [szOf_no hl0]
    go_wp2
    go_ret
    exact ⟨rfl, Below.refl _ _⟩

end Go.Proofs.YtellghhilcjbnaaDoor
