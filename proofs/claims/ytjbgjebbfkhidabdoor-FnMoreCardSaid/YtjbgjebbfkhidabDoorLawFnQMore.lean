/-
  FnMore: more in a row is more for all choices.
-/
import Derived.Test.YtjbgjebbfkhidabDoorDrawQ
import Derived.Test.YtjbgjebbfkhidabDoorFinQMore
import Derived.Test.YtjbgjebbfkhidabDoorFinQLeast
import Derived.Test.YtjbgjebbfkhidabDoorMoreMath
import Derived.Test.YtjbgjebbfkhidabDoorCore1
namespace Go.Proofs.YtjbgjebbfkhidabDoor
set_option linter.unusedVariables false
set_option linter.unusedSimpArgs false
open Go.RowKit

set_option maxRecDepth 100000 in
set_option maxHeartbeats 4000000 in
theorem FnMore_final (w : World) (A : Option Addr) (L cap : Nat) (hc : L ≤ cap) (hm : L ≤ maxLen) (hx : Code8 w A L) (hT : Tab w) :
    Calls Tryd.prog 10 #[.slice A L cap] w fun e w' => e = .returned (.bool true) ∧ Below w.heap.size w w' := by
  have HD := Lib.hid (DrawCostMore_any w A L cap hc hm hx)
  have HT := Lib.hid hT
  clear hT
  unfold maxLen at hm
  clear hx
  by_cases hbig : L ≤ 1048576
  · have e1 : ((1048576 : Int) < (L : Int)) = False := by simp; omega
    go_enter Tryd.func10, Tryd.ntmps10
    go_wp2_with fail
    refine HD.out.mono ?_
    rintro e w1 ⟨cv, xss, ri, di, rfl, hv, hbel, hri, hdi⟩
    have HM := Lib.hid hbel
    have HV := Lib.hid hv
    have HT1 := Lib.hid (HT.out.later hbel)
    clear hbel hv
    have HI := Lib.hid (fun (W : World) (hW : Below w1.heap.size w1 W) => implQMore_any W cv xss ri di (HV.out.below hW))
    have HS := Lib.hid (fun (W : World) (hW : Below w1.heap.size w1 W) => specQMore_any W cv xss ri di (HV.out.below hW))
    cases hok : moreB xss ri di with
    | false =>
      have HE := Lib.hid (moreOf_no hok)
      rw [hok] at HI HS
      clear hok
      go_wp2_with fail
      refine (HI.out _ (Below.refl w1.heap.size w1)).mono ?_
      rintro e w2 ⟨v2, us2, rfl, hb2, ho2⟩
      have HB2 := Lib.hid (step_below (Below.refl w1.heap.size w1) hb2)
      have HY1 := Lib.hid (show IntRows _ v2 [] from by rw [HE.out] at ho2; exact rows_of_owns ho2)
      clear hb2
      go_wp2_with fail
      refine (HS.out _ HB2.out).mono ?_
      rintro e w3 ⟨v3, us3, rfl, hb3, ho3⟩
      replace HY1 := Lib.hid (HY1.out.below hb3)
      have HB3 := Lib.hid (step_below HB2.out hb3)
      have HY2 := Lib.hid (show IntRows _ v3 [] from by rw [HE.out] at ho3; exact rows_of_owns ho3)
      clear hb3
      clear ho2 ho3
      go_wp2_with fail
      refine (sameRows_same _ _ _ [] HY1.out HY2.out).mono ?_
      rintro e w4 ⟨rfl, q4, rfl⟩
      replace HY1 := Lib.hid (HY1.out.drewN q4)
      replace HY2 := Lib.hid (HY2.out.drewN q4)
      have HB4 := Lib.hid (below_drewN HB3.out q4)
      go_wp2_with fail
      refine (sameRows_same _ _ _ [] HY1.out HY2.out).mono ?_
      rintro e w5 ⟨rfl, q5, rfl⟩
      replace HY1 := Lib.hid (HY1.out.drewN q5)
      replace HY2 := Lib.hid (HY2.out.drewN q5)
      have HB5 := Lib.hid (below_drewN HB4.out q5)
      have HF := Lib.hid (step_below HM.out HB5.out)
      go_wp2
      go_ret
      exact ⟨rfl, by first | exact HF.out | simpa using HF.out⟩
    | true =>
      obtain ⟨hc, -, hd, hcm⟩ := moreB_parts hok
      obtain ⟨e1', e2, e3⟩ := more_least hok
      have hbz := lq_bound hc
      have HLE := Lib.hid (fun (W : World) (hW : Below w1.heap.size w1 W) => implQLeast_any W cv xss (HV.out.below hW) (HT1.out.later hW))
      have HLM := Lib.hid (fun (W : World) (v : Value) (hW : Below w1.heap.size w1 W) (hv : IntRows W v (moreL xss ri di)) => implQLeast_any W v (moreL xss ri di) hv (HT1.out.later hW))
      rw [hok, e1'] at HI HS
      rw [hcm, e2, e3] at HLM
      rw [hc] at HLE
      obtain ⟨ms, hms⟩ : ∃ ms, moreL xss ri di = ms := ⟨_, rfl⟩
      obtain ⟨ls, hls⟩ : ∃ ls, lqOf xss = ls := ⟨_, rfl⟩
      obtain ⟨z, hz⟩ : ∃ z, lqC xss = z := ⟨_, rfl⟩
      obtain ⟨y, hy⟩ : ∃ y, z + di = y := ⟨_, rfl⟩
      rw [hms] at HI HS HLM
      rw [hls, hz] at HLE
      rw [hls, hz, hy] at HLM
      rw [hz] at hbz
      have hyb : -1000000 ≤ y ∧ y ≤ 1000000 := by omega
      have hwy := wrap_in2 y hyb.1 hyb.2
      obtain ⟨k1, k2⟩ := hwy
      clear hok hc hd hcm e1' e2 e3 hbz hms hls hz hyb hri hdi
      go_wp2_with fail
      refine (HI.out _ (Below.refl w1.heap.size w1)).mono ?_
      rintro e w2 ⟨v2, us2, rfl, hb2, ho2⟩
      have HB2 := Lib.hid (step_below (Below.refl w1.heap.size w1) hb2)
      have HY1 := Lib.hid (rows_of_owns ho2)
      clear hb2
      go_wp2_with fail
      refine (HS.out _ HB2.out).mono ?_
      rintro e w3 ⟨v3, us3, rfl, hb3, ho3⟩
      replace HY1 := Lib.hid (HY1.out.below hb3)
      have HB3 := Lib.hid (step_below HB2.out hb3)
      have HY2 := Lib.hid (rows_of_owns ho3)
      clear hb3
      clear ho2 ho3
      go_wp2_with fail
      refine (sameRows_same _ _ _ ms HY1.out HY2.out).mono ?_
      rintro e w4 ⟨rfl, q4, rfl⟩
      replace HY1 := Lib.hid (HY1.out.drewN q4)
      replace HY2 := Lib.hid (HY2.out.drewN q4)
      have HB4 := Lib.hid (below_drewN HB3.out q4)
      go_wp2_with fail
      refine (HLE.out _ HB4.out).mono ?_
      rintro e w5 ⟨v5, rfl, hb5, ho5⟩
      replace HY1 := Lib.hid (HY1.out.below hb5)
      replace HY2 := Lib.hid (HY2.out.below hb5)
      have HB5 := Lib.hid (step_below HB4.out hb5)
      have HP5 := Lib.hid (ints_of_owns ho5)
      clear hb5
      clear ho5
      go_wp2_with fail
      refine (HLM.out _ _ HB5.out HY1.out).mono ?_
      rintro e w6 ⟨v6, rfl, hb6, ho6⟩
      replace HY1 := Lib.hid (HY1.out.below hb6)
      replace HY2 := Lib.hid (HY2.out.below hb6)
      replace HP5 := Lib.hid (HP5.out.below hb6)
      have HB6 := Lib.hid (step_below HB5.out hb6)
      have HP6 := Lib.hid (ints_of_owns ho6)
      clear hb6
      clear ho6
      go_wp2_with fail
      refine (sameInts_same _ _ _ ls HP5.out HP6.out).mono ?_
      rintro e w7 ⟨rfl, q7, rfl⟩
      replace HY1 := Lib.hid (HY1.out.drewN q7)
      replace HY2 := Lib.hid (HY2.out.drewN q7)
      replace HP5 := Lib.hid (HP5.out.drewN q7)
      replace HP6 := Lib.hid (HP6.out.drewN q7)
      have HB7 := Lib.hid (below_drewN HB6.out q7)
      have HF := Lib.hid (step_below HM.out HB7.out)
      go_wp2
      go_ret
      exact ⟨rfl, by first | exact HF.out | simpa using HF.out⟩
  · have e1 : ((1048576 : Int) < (L : Int)) = True := by simp; omega
    go_enter Tryd.func10, Tryd.ntmps10
    go_wp2
    go_ret
    exact ⟨rfl, Below.refl _ _⟩

end Go.Proofs.YtjbgjebbfkhidabDoor
