/-
  FnExactPolyTimes: at every input what the program hands back is what the specification does, in memory of its own; the arguments stay as they were.
-/
import Derived.Test.YtldnipbpjohikaaGives
import Derived.Test.YtldnipbpjohikaaToInts
import Derived.Test.YtldnipbpjohikaaEqInts
import Derived.Test.YtldnipbpjohikaaMarkInts
namespace Go.Proofs.Ytldnipbpjohikaa
open Go.RowKit

set_option maxRecDepth 100000 in
set_option maxHeartbeats 4000000 in
theorem FnExactPolyTimes_walk (w : World) (v0 : Value) (xs0 : List Int) (v1 : Value) (xs1 : List Int) (h0 : Ints w v0 xs0) (h1 : Ints w v1 xs1) (ok : Bool) (ys : List Int) (hly : ys.length ≤ 1048576)
    (hs : ∀ W p0 p1, Ints W p0 xs0 → Ints W p1 xs1 → Calls Try.prog 19 #[p0, p1] W (GivesInts W ok ys)) (hi : ∀ W p0 p1, Ints W p0 xs0 → Ints W p1 xs1 → Calls Try.prog 20 #[p0, p1] W (GivesInts W ok ys)) :
    Calls Try.prog 5 #[v0, v1] w fun e w' => e = .returned (.bool true) ∧ Below w.heap.size w w' := by
  have hv0 := h0
  obtain ⟨A0, cap0, rfl, hm0, _⟩ := h0
  have HV0 := Lib.hid hv0
  clear hv0
  unfold maxLen at hm0
  have hv1 := h1
  obtain ⟨A1, cap1, rfl, hm1, _⟩ := h1
  have HV1 := Lib.hid hv1
  clear hv1
  unfold maxLen at hm1
  have HS := Lib.hid hs
  have HI := Lib.hid hi
  clear hs hi
  by_cases hl0 : xs0.length ≤ 1048576
  · have hl0' : ¬ (1048576 : Int) < (xs0.length : Int) := by omega
    by_cases hl1 : xs1.length ≤ 1048576
    · have hl1' : ¬ (1048576 : Int) < (xs1.length : Int) := by omega
      go_enter Try.func5, Try.ntmps5
      go_wp2_with fail
      refine (toIntS_any (w) _ xs0 (HV0.out.below (Below.refl _ _)) (by omega)).mono ?_
      rintro e w1 ⟨rfl, hb1, b1⟩
      have hb1' : Below w.heap.size w w1 := step_below (Below.refl _ _) hb1
      have c0_1 := OwnsAt.of b1
      go_wp2_with fail
      refine (toIntS_any (w1) _ xs1 (HV1.out.below (hb1')) (by omega)).mono ?_
      rintro e w2 ⟨rfl, hb2, b2⟩
      have c0_2 := c0_1.below hb2
      have hb2' : Below w.heap.size w w2 := step_below (hb1') hb2
      have c1_2 := OwnsAt.of b2
      go_wp2_with fail
      refine (HS.out (w2) _ _ (ints_at_owns c0_2) (ints_at_owns c1_2)).mono ?_
      rintro e w3 ⟨v3, rfl, hb3, b3⟩
      have c0_3 := c0_2.below hb3
      have c1_3 := c1_2.below hb3
      have hb3' : Below w.heap.size w w3 := step_below (hb2') hb3
      have o_3 := OwnsAt.of b3
      go_wp2_with fail
      refine (toIntS_any (w3) _ xs0 (HV0.out.below (hb3')) (by omega)).mono ?_
      rintro e w4 ⟨rfl, hb4, b4⟩
      have o_4 := o_3.below hb4
      have hb4' : Below w.heap.size w w4 := step_below (hb3') hb4
      have x0_4 := OwnsAt.of b4
      go_wp2_with fail
      refine (toIntS_any (w4) _ xs1 (HV1.out.below (hb4')) (by omega)).mono ?_
      rintro e w5 ⟨rfl, hb5, b5⟩
      have o_5 := o_4.below hb5
      have x0_5 := x0_4.below hb5
      have hb5' : Below w.heap.size w w5 := step_below (hb4') hb5
      have x1_5 := OwnsAt.of b5
      go_wp2_with fail
      refine (HI.out (w5) _ _ (ints_at_owns x0_5) (ints_at_owns x1_5)).mono ?_
      rintro e w6 ⟨v6, rfl, hb6, b6⟩
      have o_6 := o_5.below hb6
      have x0_6 := x0_5.below hb6
      have x1_6 := x1_5.below hb6
      have hb6' : Below w.heap.size w w6 := step_below (hb5') hb6
      have g_6 := OwnsAt.of b6
      go_wp2_with fail
      refine (eqIntS_same (w6) _ _ ys (ints_at_owns g_6) (ints_at_owns o_6)).mono ?_
      rintro e w7 ⟨rfl, q7, rfl⟩
      have o_7 := o_6.drewN q7
      have x0_7 := x0_6.drewN q7
      have x1_7 := x1_6.drewN q7
      have g_7 := g_6.drewN q7
      have hb7' := below_drewN (hb6') q7
      go_wp2_with fail
      refine (toIntS_any (w6.drewN q7) _ xs0 (HV0.out.below (hb7')) (by omega)).mono ?_
      rintro e w8 ⟨rfl, hb8, b8⟩
      have o_8 := o_7.below hb8
      have x0_8 := x0_7.below hb8
      have x1_8 := x1_7.below hb8
      have g_8 := g_7.below hb8
      have hb8' : Below w.heap.size w w8 := step_below (hb7') hb8
      have cc_8 := OwnsAt.of b8
      go_wp2_with fail
      refine (eqIntS_same (w8) _ _ xs0 (ints_at_owns x0_8) (ints_at_owns cc_8)).mono ?_
      rintro e w9 ⟨rfl, q9, rfl⟩
      have o_9 := o_8.drewN q9
      have x0_9 := x0_8.drewN q9
      have x1_9 := x1_8.drewN q9
      have g_9 := g_8.drewN q9
      have cc_9 := cc_8.drewN q9
      have hb9' := below_drewN (hb8') q9
      go_wp2_with fail
      refine (toIntS_any (w8.drewN q9) _ xs1 (HV1.out.below (hb9')) (by omega)).mono ?_
      rintro e w10 ⟨rfl, hb10, b10⟩
      have o_10 := o_9.below hb10
      have x0_10 := x0_9.below hb10
      have x1_10 := x1_9.below hb10
      have g_10 := g_9.below hb10
      have hb10' : Below w.heap.size w w10 := step_below (hb9') hb10
      have cc_10 := OwnsAt.of b10
      go_wp2_with fail
      refine (eqIntS_same (w10) _ _ xs1 (ints_at_owns x1_10) (ints_at_owns cc_10)).mono ?_
      rintro e w11 ⟨rfl, q11, rfl⟩
      have o_11 := o_10.drewN q11
      have x0_11 := x0_10.drewN q11
      have x1_11 := x1_10.drewN q11
      have g_11 := g_10.drewN q11
      have cc_11 := cc_10.drewN q11
      have hb11' := below_drewN (hb10') q11
      go_wp2_with fail
      refine (markIntS_any (w10.drewN q11) _ _ xs0 (1) x0_11.1 (by omega) (by omega)).mono ?_
      rintro e w12 ⟨rfl, g12, m12⟩
      have hw12 := Within.of_grown g12 (fun k hk => ⟨(x0_11.1.lt k hk).1, x0_11.2 k hk⟩)
      have o_12 := o_11.kept hw12 (.inl (Nat.le_refl _))
      have x1_12 := x1_11.kept hw12 (.inr (Nat.le_refl _))
      have g_12 := g_11.kept hw12 (.inr (hb5.size))
      have hb12' : Below w.heap.size w w12 := Below.within (hb11') hw12 ((Nat.le_trans hb1.size (Nat.le_trans hb2.size hb3.size)))
      go_wp2_with fail
      refine (markIntS_any (w12) _ _ xs1 (1 + xs0.length) x1_12.1 (by omega) (by omega)).mono ?_
      rintro e w13 ⟨rfl, g13, m13⟩
      have hw13 := Within.of_grown g13 (fun k hk => ⟨(x1_12.1.lt k hk).1, x1_12.2 k hk⟩)
      have o_13 := o_12.kept hw13 (.inl (hb4.size))
      have g_13 := g_12.kept hw13 (.inr (Nat.le_refl _))
      have hb13' : Below w.heap.size w w13 := Below.within (hb12') hw13 ((Nat.le_trans hb1.size (Nat.le_trans hb2.size (Nat.le_trans hb3.size hb4.size))))
      go_wp2_with fail
      refine (eqIntS_same (w13) _ _ ys (ints_at_owns g_13) (ints_at_owns o_13)).mono ?_
      rintro e w14 ⟨rfl, q14, rfl⟩
      have o_14 := o_13.drewN q14
      have g_14 := g_13.drewN q14
      have hb14' := below_drewN (hb13') q14
      go_wp2_with fail
      refine (markIntS_any (w13.drewN q14) _ _ ys (1) g_14.1 (by omega) (by omega)).mono ?_
      rintro e w15 ⟨rfl, g15, m15⟩
      have hw15 := Within.of_grown g15 (fun k hk => ⟨(g_14.1.lt k hk).1, g_14.2 k hk⟩)
      have o_15 := o_14.kept hw15 (.inl ((Nat.le_trans hb4.size hb5.size)))
      have hb15' : Below w.heap.size w w15 := Below.within (hb14') hw15 ((Nat.le_trans hb1.size (Nat.le_trans hb2.size (Nat.le_trans hb3.size (Nat.le_trans hb4.size hb5.size)))))
      have g_15 : OwnsInts w15 w5.heap.size w6.heap.size v6 (marks 1 ys.length) := ⟨m15, g_14.2⟩
      go_wp2_with fail
      refine (heldIntS_any (w15) _ 1 ys.length (ints_at_owns g_15) (by omega) (by omega)).mono ?_
      rintro e w16 ⟨rfl, rfl⟩
      go_wp2_with fail
      refine (toIntS_any (w15) _ xs0 (HV0.out.below (hb15')) (by omega)).mono ?_
      rintro e w17 ⟨rfl, hb17, b17⟩
      have o_17 := o_15.below hb17
      have g_17 := g_15.below hb17
      have hb17' : Below w.heap.size w w17 := step_below (hb15') hb17
      have d0_17 := OwnsAt.of b17
      go_wp2_with fail
      refine (toIntS_any (w17) _ xs1 (HV1.out.below (hb17')) (by omega)).mono ?_
      rintro e w18 ⟨rfl, hb18, b18⟩
      have o_18 := o_17.below hb18
      have g_18 := g_17.below hb18
      have d0_18 := d0_17.below hb18
      have hb18' : Below w.heap.size w w18 := step_below (hb17') hb18
      have d1_18 := OwnsAt.of b18
      go_wp2_with fail
      refine (HI.out (w18) _ _ (ints_at_owns d0_18) (ints_at_owns d1_18)).mono ?_
      rintro e w19 ⟨v19, rfl, hb19, b19⟩
      have o_19 := o_18.below hb19
      have g_19 := g_18.below hb19
      have d0_19 := d0_18.below hb19
      have d1_19 := d1_18.below hb19
      have hb19' : Below w.heap.size w w19 := step_below (hb18') hb19
      have h_19 := OwnsAt.of b19
      go_wp2_with fail
      refine (eqIntS_same (w19) _ _ ys (ints_at_owns h_19) (ints_at_owns o_19)).mono ?_
      rintro e w20 ⟨rfl, q20, rfl⟩
      have o_20 := o_19.drewN q20
      have g_20 := g_19.drewN q20
      have h_20 := h_19.drewN q20
      have hb20' := below_drewN (hb19') q20
      go_wp2_with fail
      refine (heldIntS_any (w19.drewN q20) _ 1 ys.length (ints_at_owns g_20) (by omega) (by omega)).mono ?_
      rintro e w21 ⟨rfl, rfl⟩
      go_wp2
      go_ret
      exact ⟨rfl, hb20'⟩
    · have hl1' : (1048576 : Int) < (xs1.length : Int) := by omega
      go_enter Try.func5, Try.ntmps5
      go_wp2
      go_ret
      exact ⟨rfl, Below.refl _ _⟩
  · have hl0' : (1048576 : Int) < (xs0.length : Int) := by omega
    go_enter Try.func5, Try.ntmps5
    go_wp2
    go_ret
    exact ⟨rfl, Below.refl _ _⟩

end Go.Proofs.Ytldnipbpjohikaa
