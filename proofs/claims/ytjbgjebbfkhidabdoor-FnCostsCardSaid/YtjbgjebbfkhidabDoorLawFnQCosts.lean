/-
  FnCosts: costs have a least choice.
-/
import Derived.Test.YtjbgjebbfkhidabDoorDrawQ
import Derived.Test.YtjbgjebbfkhidabDoorFinQIn
import Derived.Test.YtjbgjebbfkhidabDoorFinQLeast
import Derived.Test.YtjbgjebbfkhidabDoorMoreMath
namespace Go.Proofs.YtjbgjebbfkhidabDoor
set_option linter.unusedVariables false
set_option linter.unusedSimpArgs false
open Go.RowKit

set_option maxRecDepth 100000 in
set_option maxHeartbeats 4000000 in
theorem FnCosts_final (w : World) (A : Option Addr) (L cap : Nat) (hc : L ≤ cap) (hm : L ≤ maxLen) (hx : Code8 w A L) (hT : Tab w) :
    Calls Tryd.prog 6 #[.slice A L cap] w fun e w' => e = .returned (.bool true) ∧ Below w.heap.size w w' := by
  have HD := Lib.hid (DrawCostIn_any w A L cap hc hm hx)
  have HT := Lib.hid hT
  clear hT
  unfold maxLen at hm
  clear hx
  by_cases hbig : L ≤ 1048576
  · have e1 : ((1048576 : Int) < (L : Int)) = False := by simp; omega
    go_enter Tryd.func6, Tryd.ntmps6
    go_wp2_with fail
    refine HD.out.mono ?_
    rintro e w1 ⟨cv, xss, rfl, hv, hbel⟩
    have HM := Lib.hid hbel
    have HV := Lib.hid hv
    have HT1 := Lib.hid (HT.out.later hbel)
    clear hbel hv
    have HI := Lib.hid (fun (W : World) (hW : Below w1.heap.size w1 W) => implQIn_any W cv xss (HV.out.below hW))
    have HS := Lib.hid (fun (W : World) (hW : Below w1.heap.size w1 W) => specCostIn_any W cv xss (HV.out.below hW))
    obtain ⟨A1, cap1, rfl, -, -⟩ := HV.out.at
    cases hok : cIn xss with
    | false =>
      rw [hok] at HI HS
      clear hok
      go_wp2_with fail
      refine (HI.out _ (Below.refl w1.heap.size w1)).mono ?_
      rintro e w2 ⟨rfl, hb2⟩
      have HB2 := Lib.hid (step_below (Below.refl w1.heap.size w1) hb2)
      clear hb2
      go_wp2_with fail
      refine (HS.out _ HB2.out).mono ?_
      rintro e w3 ⟨rfl, q3, rfl⟩
      have HB3 := Lib.hid (below_drewN HB2.out q3)
      have HF := Lib.hid (step_below HM.out HB3.out)
      go_wp2
      go_ret
      exact ⟨rfl, by first | exact HF.out | simpa using HF.out⟩
    | true =>
      obtain ⟨-, -, hob, hoc⟩ := lq_of hok
      have HLE := Lib.hid (fun (W : World) (hW : Below w1.heap.size w1 W) => implQLeast_any W _ xss (HV.out.below hW) (HT1.out.later hW))
      have HOF := Lib.hid (fun (W : World) (u : Value) (hW : Below w1.heap.size w1 W) (hu : Ints W u (lqOf xss)) => implQOf_any W _ u xss (lqOf xss) (HV.out.below hW) hu)
      rw [hok] at HI HS HLE
      rw [hob, hoc] at HOF
      obtain ⟨ls, hls⟩ : ∃ ls, lqOf xss = ls := ⟨_, rfl⟩
      obtain ⟨z, hz⟩ : ∃ z, lqC xss = z := ⟨_, rfl⟩
      rw [hls, hz] at HLE HOF
      clear hok hob hoc hls hz
      go_wp2_with fail
      refine (HI.out _ (Below.refl w1.heap.size w1)).mono ?_
      rintro e w2 ⟨rfl, hb2⟩
      have HB2 := Lib.hid (step_below (Below.refl w1.heap.size w1) hb2)
      clear hb2
      go_wp2_with fail
      refine (HS.out _ HB2.out).mono ?_
      rintro e w3 ⟨rfl, q3, rfl⟩
      have HB3 := Lib.hid (below_drewN HB2.out q3)
      go_wp2_with fail
      refine (HLE.out _ HB3.out).mono ?_
      rintro e w4 ⟨v4, rfl, hb4, ho4⟩
      have HB4 := Lib.hid (step_below HB3.out hb4)
      have HY := Lib.hid (ints_of_owns ho4)
      clear hb4
      clear ho4
      go_wp2_with fail
      refine (HOF.out _ _ HB4.out HY.out).mono ?_
      rintro e w5 ⟨rfl, hb5⟩
      replace HY := Lib.hid (HY.out.below hb5)
      have HB5 := Lib.hid (step_below HB4.out hb5)
      clear hb5
      have HF := Lib.hid (step_below HM.out HB5.out)
      go_wp2
      go_ret
      exact ⟨rfl, by first | exact HF.out | simpa using HF.out⟩
  · have e1 : ((1048576 : Int) < (L : Int)) = True := by simp; omega
    go_enter Tryd.func6, Tryd.ntmps6
    go_wp2
    go_ret
    exact ⟨rfl, Below.refl _ _⟩

end Go.Proofs.YtjbgjebbfkhidabDoor
