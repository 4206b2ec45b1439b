/-
  FnGraph: graphs are made of their edges.
-/
import Derived.Test.YthafhcocgohjaabDoorDraw1
import Derived.Test.YthafhcocgohjaabDoorOfMath
import Derived.Test.YthafhcocgohjaabDoorOfAny
import Derived.Test.YthafhcocgohjaabDoorCore2
import Derived.Test.YthafhcocgohjaabDoorImplIn
import Derived.Test.YthafhcocgohjaabDoorSame
namespace Go.Proofs.YthafhcocgohjaabDoor
set_option linter.unusedVariables false
set_option linter.unusedSimpArgs false
open Go.RowKit

set_option maxRecDepth 100000 in
set_option maxHeartbeats 400000 in
theorem DrawGraphIn_some (w : World) (A : Option Addr) (L cap : Nat) (hc : L ≤ cap) (hm : L ≤ maxLen) (hx : Code8 w A L) :
    Calls Tryd.prog 42 #[.slice A L cap] w (GivesList w 7) := by
  have HO := Lib.hid (some_any w A L cap hc hm hx)
  clear hx hm hc
  go_enter Tryd.func42, Tryd.ntmps42
  go_wp2_with fail
  refine HO.out.mono ?_
  rintro e w1 ⟨G, xs, rfl, h1, h7, hI, hb1, hi⟩
  have HH := Lib.hid (And.intro hI (And.intro hb1 hi))
  clear hI hb1 hi
  go_wp2
  go_ret
  exact ⟨G, xs, rfl, h1, h7, HH.out.1, HH.out.2.1, HH.out.2.2⟩

set_option maxRecDepth 100000 in
set_option maxHeartbeats 4000000 in
theorem FnGraph_final (w : World) (A : Option Addr) (L cap : Nat) (hc : L ≤ cap) (hm : L ≤ maxLen) (hx : Code8 w A L) (hT : Tab w) :
    Calls Tryd.prog 10 #[.slice A L cap] w fun e w' => e = .returned (.bool true) ∧ Below w.heap.size w w' := by
  have HD := Lib.hid (DrawGraphIn_some w A L cap hc hm hx)
  have HT := Lib.hid hT
  unfold maxLen at hm
  clear hx hT
  by_cases hbig : L ≤ 1048576
  · have e1 : ((1048576 : Int) < (L : Int)) = False := by simp; omega
    go_enter Tryd.func10, Tryd.ntmps10
    go_wp2_with fail
    refine HD.out.mono ?_
    rintro e w1 ⟨G, xs, rfl, h1, h7, hI, hb1, hi⟩
    have HI := Lib.hid hi
    have HB1 := Lib.hid hb1
    have HII := Lib.hid hI
    clear hI hi hb1
    have hS := implIn_any w1 _ xs HI.out HII.out (HT.out.later HB1.out)
    have HP := Lib.hid (fun W (hW : Ints W (.slice (some ⟨G, 0, none⟩) xs.length xs.length) xs) => specIn_any W _ xs hW)
    cases hg : gIn xs with
    | false =>
      rw [hg] at hS HP
      have HS := Lib.hid hS
      clear hS hg
      go_wp2_with fail
      refine HS.out.mono ?_
      rintro e w2 ⟨rfl, hb2⟩
      go_wp2_with fail
      refine (HP.out _ (HI.out.below hb2)).mono ?_
      rintro e w3 ⟨rfl, q3, rfl⟩
      go_wp2
      go_ret
      exact ⟨rfl, below_drewN (step_below HB1.out hb2) q3⟩
    | true =>
      obtain ⟨ho1, ho2⟩ := of_edges hg
      have hE := fun W (hW : Ints W (.slice (some ⟨G, 0, none⟩) xs.length xs.length) xs) (hTW : Tab W) => implEdges_any W _ xs hW HII.out hTW
      rw [hg] at hE
      obtain ⟨zs, hz⟩ : ∃ zs, edgesL xs = zs := ⟨_, rfl⟩
      rw [hz] at hE ho1 ho2
      have hO := fun W (u : Value) (hW : IntRows W u zs) => implOf_any W (xs.length : Int) u zs hW
      rw [ho1, ho2] at hO
      rw [hg] at hS HP
      have HS := Lib.hid hS
      have HE := Lib.hid hE
      have HO := Lib.hid hO
      clear hS hE hO hg hz ho1 ho2
      go_wp2_with fail
      refine HS.out.mono ?_
      rintro e w2 ⟨rfl, hb2⟩
      go_wp2_with fail
      refine (HP.out _ (HI.out.below hb2)).mono ?_
      rintro e w3 ⟨rfl, q3, rfl⟩
      have HBB := Lib.hid (below_drewN (step_below HB1.out hb2) q3)
      have HI3 := Lib.hid ((HI.out.below hb2).drewN q3)
      clear hb2
      go_wp2_with fail
      refine (HE.out _ HI3.out (HT.out.later HBB.out)).mono ?_
      rintro e w4 ⟨x0, us0, rfl, hb4, ho4⟩
      have HB4 := Lib.hid (step_below HBB.out hb4)
      have HI4 := Lib.hid (HI3.out.below hb4)
      have HX4 := Lib.hid (rows_of_owns ho4)
      clear hb4 ho4
      go_wp2_with fail
      refine (HO.out _ _ HX4.out).mono ?_
      rintro e w5 ⟨y0, rfl, hb5, ho5⟩
      have HB5 := Lib.hid (step_below HB4.out hb5)
      have HI5 := Lib.hid (HI4.out.below hb5)
      have HY5 := Lib.hid (ints_of_owns ho5)
      clear hb5 ho5
      go_wp2_with fail
      refine (sameInts_same _ _ _ xs HY5.out HI5.out).mono ?_
      rintro e w6 ⟨rfl, q, rfl⟩
      go_wp2
      go_ret
      exact ⟨rfl, below_drewN HB5.out _⟩
  · have e1 : ((1048576 : Int) < (L : Int)) = True := by simp; omega
    go_enter Tryd.func10, Tryd.ntmps10
    go_wp2
    go_ret
    exact ⟨rfl, Below.refl _ _⟩

end Go.Proofs.YthafhcocgohjaabDoor
