/-
  FnOther: the others of the others are the graph.
-/
import Derived.Test.YtcklinoiaiilgabDoorDrawSome
import Derived.Test.YtcklinoiaiilgabDoorOtherMath
import Derived.Test.YtcklinoiaiilgabDoorSame
namespace Go.Proofs.YtcklinoiaiilgabDoor
set_option linter.unusedVariables false
set_option linter.unusedSimpArgs false
open Go.RowKit

set_option maxRecDepth 100000 in
set_option maxHeartbeats 400000 in
theorem DrawGraphOther_some (w : World) (A : Option Addr) (L cap : Nat) (hc : L ≤ cap) (hm : L ≤ maxLen) (hx : Code8 w A L) :
    Calls Tryd.prog 37 #[.slice A L cap] w (GivesList w 7) := by
  have HO := Lib.hid (some_any w A L cap hc hm hx)
  clear hx hm hc
  go_enter Tryd.func37, Tryd.ntmps37
  go_wp2_with fail
  refine HO.out.mono ?_
  rintro e w1 ⟨G, xs, rfl, h1, h7, hI, hb1, hi⟩
  have HH := Lib.hid (And.intro hI (And.intro hb1 hi))
  clear hI hb1 hi
  go_wp2
  go_ret
  exact ⟨G, xs, rfl, h1, h7, HH.out.1, HH.out.2.1, HH.out.2.2⟩

set_option maxRecDepth 100000 in
set_option maxHeartbeats 4000000 in
theorem FnOther_final (w : World) (A : Option Addr) (L cap : Nat) (hc : L ≤ cap) (hm : L ≤ maxLen) (hx : Code8 w A L) (hT : Tab w) :
    Calls Tryd.prog 8 #[.slice A L cap] w fun e w' => e = .returned (.bool true) ∧ Below w.heap.size w w' := by
  have HD := Lib.hid (DrawGraphOther_some w A L cap hc hm hx)
  have HT := Lib.hid hT
  unfold maxLen at hm
  clear hx hT
  by_cases hbig : L ≤ 1048576
  · have e1 : ((1048576 : Int) < (L : Int)) = False := by simp; omega
    go_enter Tryd.func8, Tryd.ntmps8
    go_wp2_with fail
    refine HD.out.mono ?_
    rintro e w1 ⟨G, xs, rfl, h1, h7, hI, hb1, hi⟩
    have HI := Lib.hid hi
    have HB1 := Lib.hid hb1
    have HII := Lib.hid hI
    clear hI hi hb1
    have hS := implOther_any w1 _ xs HI.out HII.out (HT.out.later HB1.out)
    have HP := Lib.hid (fun W (hW : Ints W (.slice (some ⟨G, 0, none⟩) xs.length xs.length) xs) => specOther_any W _ xs hW)
    cases hg : gIn xs with
    | false =>
      obtain ⟨ys, hy⟩ : ∃ ys, otherOf xs = ys := ⟨_, rfl⟩
      rw [hg, hy] at hS HP
      have HS := Lib.hid hS
      clear hS hg hy
      go_wp2_with fail
      refine HS.out.mono ?_
      rintro e w2 ⟨g0, rfl, hb2, ho2⟩
      go_wp2_with fail
      refine (HP.out _ (HI.out.below hb2)).mono ?_
      rintro e w3 ⟨s0, rfl, hb3, ho3⟩
      have HBB := Lib.hid (step_below (step_below HB1.out hb2) hb3)
      have HY1 := Lib.hid ((ints_of_owns ho2).below hb3)
      have HY2 := Lib.hid (ints_of_owns ho3)
      clear hb2 hb3 ho2 ho3
      go_wp2_with fail
      refine (sameInts_same _ _ _ ys HY1.out HY2.out).mono ?_
      rintro e w4 ⟨rfl, q, rfl⟩
      go_wp2_with fail
      refine (sameInts_same _ _ _ ys (HY1.out.drewN q) (HY2.out.drewN q)).mono ?_
      rintro e w5 ⟨rfl, q2, rfl⟩
      go_wp2
      go_ret
      exact ⟨rfl, below_drewN HBB.out _⟩
    | true =>
      obtain ⟨hg2, hl2, hI2, hoo, _⟩ := other_facts hg
      have hone := one_part_of hg
      obtain ⟨ys, hy⟩ : ∃ ys, otherOf xs = ys := ⟨_, rfl⟩
      rw [hy] at hg2 hI2 hoo hone
      rw [hg, hy] at hS HP
      have HS := Lib.hid hS
      have hO2 := fun W (u : Value) (hW : Ints W u ys) (hTW : Tab W) => implOther_any W u ys hW hI2 hTW
      rw [hg2, hoo] at hO2
      have hP1 := fun W (u : Value) (hW : Ints W u xs) (hTW : Tab W) => implParts_any W u xs hW HII.out hTW
      have hP2 := fun W (u : Value) (hW : Ints W u ys) (hTW : Tab W) => implParts_any W u ys hW hI2 hTW
      rw [hg] at hP1
      rw [hg2] at hP2
      obtain ⟨pa, ha⟩ : ∃ pa, partsOf xs = pa := ⟨_, rfl⟩
      obtain ⟨bs, hbs⟩ : ∃ bs, partsOf ys = bs := ⟨_, rfl⟩
      rw [ha] at hP1 hone
      rw [hbs] at hP2 hone
      have HO2 := Lib.hid hO2
      have HP1 := Lib.hid hP1
      have HP2 := Lib.hid hP2
      clear hS hg hy hg2 hl2 hI2 hoo hO2 hP1 hP2 ha hbs
      go_wp2_with fail
      refine HS.out.mono ?_
      rintro e w2 ⟨g0, rfl, hb2, ho2⟩
      go_wp2_with fail
      refine (HP.out _ (HI.out.below hb2)).mono ?_
      rintro e w3 ⟨s0, rfl, hb3, ho3⟩
      have HBB := Lib.hid (step_below (step_below HB1.out hb2) hb3)
      have HI3 := Lib.hid ((HI.out.below hb2).below hb3)
      have HY1 := Lib.hid ((ints_of_owns ho2).below hb3)
      have HY2 := Lib.hid (ints_of_owns ho3)
      clear hb2 hb3 ho2 ho3
      go_wp2_with fail
      refine (sameInts_same _ _ _ ys HY1.out HY2.out).mono ?_
      rintro e w4 ⟨rfl, q, rfl⟩
      have HB4 := Lib.hid (below_drewN HBB.out q)
      go_wp2_with fail
      refine (HO2.out _ _ (HY1.out.drewN q) (HT.out.later HB4.out)).mono ?_
      rintro e w5 ⟨x0, rfl, hb5, ho5⟩
      have HB5 := Lib.hid (step_below HB4.out hb5)
      have HI5 := Lib.hid ((HI3.out.drewN q).below hb5)
      have HY5 := Lib.hid ((HY1.out.drewN q).below hb5)
      have HX5 := Lib.hid (ints_of_owns ho5)
      clear hb5 ho5
      go_wp2_with fail
      refine (HP1.out _ _ HI5.out (HT.out.later HB5.out)).mono ?_
      rintro e w6 ⟨a0, rfl, hb6, ho6⟩
      have HB6 := Lib.hid (step_below HB5.out hb6)
      have HI6 := Lib.hid (HI5.out.below hb6)
      have HY6 := Lib.hid (HY5.out.below hb6)
      have HX6 := Lib.hid (HX5.out.below hb6)
      have HA6 := Lib.hid (ints_of_owns ho6)
      clear hb6 ho6
      go_wp2_with fail
      refine (HP2.out _ _ HY6.out (HT.out.later HB6.out)).mono ?_
      rintro e w7 ⟨b0, rfl, hb7, ho7⟩
      have HB7 := Lib.hid (step_below HB6.out hb7)
      have HI7 := Lib.hid (HI6.out.below hb7)
      have HX7 := Lib.hid (HX6.out.below hb7)
      have HA7 := Lib.hid (HA6.out.below hb7)
      have HC7 := Lib.hid (ints_of_owns ho7)
      clear hb7 ho7
      go_wp2_with fail
      refine (sameInts_same _ _ _ xs HX7.out HI7.out).mono ?_
      rintro e w8 ⟨rfl, q8, rfl⟩
      obtain ⟨Aa, ca, rfl, hma, _⟩ := HA7.out
      obtain ⟨Ab, cb, rfl, hmb, _⟩ := HC7.out
      by_cases ha1 : pa.length = 1
      · have e2 : ((pa.length : Int) == 1) = true := by rw [beq_iff_eq]; omega
        clear ha1 hone
        go_wp2
        go_ret
        exact ⟨rfl, below_drewN HB7.out _⟩
      · have e2 : ((pa.length : Int) == 1) = false := by rw [beq_eq_false_iff_ne]; omega
        have hb1 : bs.length = 1 := hone.resolve_left ha1
        have e3 : ((bs.length : Int) == 1) = true := by rw [beq_iff_eq]; omega
        clear ha1 hone hb1
        go_wp2
        go_ret
        exact ⟨rfl, below_drewN HB7.out _⟩
  · have e1 : ((1048576 : Int) < (L : Int)) = True := by simp; omega
    go_enter Tryd.func8, Tryd.ntmps8
    go_wp2
    go_ret
    exact ⟨rfl, Below.refl _ _⟩

end Go.Proofs.YtcklinoiaiilgabDoor
