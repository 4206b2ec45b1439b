/-
  FnCostTurned: what is asked of costs turned.
-/
import Derived.Test.YtjbgjebbfkhidabDoorDrawC4
import Derived.Test.YtjbgjebbfkhidabDoorFinQTurned
import Derived.Test.YtjbgjebbfkhidabDoorFinQNarrow
import Derived.Test.YtjbgjebbfkhidabDoorNT
import Derived.Test.YtjbgjebbfkhidabDoorFinQLeast
import Derived.Test.YtjbgjebbfkhidabDoorCore1
namespace Go.Proofs.YtjbgjebbfkhidabDoor
set_option linter.unusedVariables false
set_option linter.unusedSimpArgs false
open Go.RowKit

set_option maxRecDepth 100000 in
set_option maxHeartbeats 4000000 in
theorem FnCostTurned_final (w : World) (A : Option Addr) (L cap : Nat) (hc : L ≤ cap) (hm : L ≤ maxLen) (hx : Code8 w A L) (hT : Tab w) :
    Calls Tryd.prog 9 #[.slice A L cap] w fun e w' => e = .returned (.bool true) ∧ Below w.heap.size w w' := by
  have HD := Lib.hid (DrawCostTurned4_any w A L cap hc hm hx)
  have HT := Lib.hid hT
  clear hT
  unfold maxLen at hm
  clear hx
  by_cases hbig : L ≤ 1048576
  · have e1 : ((1048576 : Int) < (L : Int)) = False := by simp; omega
    go_enter Tryd.func9, Tryd.ntmps9
    go_wp2_with fail
    refine HD.out.mono ?_
    rintro e w1 ⟨cv, xss, rfl, hv, hx4, hbel⟩
    have HM := Lib.hid hbel
    have HV := Lib.hid hv
    have HT1 := Lib.hid (HT.out.later hbel)
    clear hbel hv
    have HI := Lib.hid (fun (W : World) (hW : Below w1.heap.size w1 W) => implQTurned_any W cv xss (HV.out.below hW))
    have HS := Lib.hid (fun (W : World) (hW : Below w1.heap.size w1 W) => specQTurned_any W cv xss (HV.out.below hW))
    cases hok : cIn xss with
    | false =>
      have HE := Lib.hid (show trOf xss = [] from by unfold trOf; rw [hok]; rfl)
      rw [hok, HE.out] at HI HS
      clear hok hx4
      go_wp2_with fail
      refine (HI.out _ (Below.refl w1.heap.size w1)).mono ?_
      rintro e w2 ⟨v2, us2, rfl, hb2, ho2⟩
      have HB2 := Lib.hid (step_below (Below.refl w1.heap.size w1) hb2)
      have HY1 := Lib.hid (rows_of_owns ho2)
      clear hb2
      clear ho2
      go_wp2_with fail
      refine (HS.out _ HB2.out).mono ?_
      rintro e w3 ⟨v3, us3, rfl, hb3, ho3⟩
      replace HY1 := Lib.hid (HY1.out.below hb3)
      have HB3 := Lib.hid (step_below HB2.out hb3)
      have HY2 := Lib.hid (rows_of_owns ho3)
      clear hb3
      clear ho3
      go_wp2_with fail
      refine (sameRows_same _ _ _ [] HY1.out HY2.out).mono ?_
      rintro e w4 ⟨rfl, q4, rfl⟩
      replace HY1 := Lib.hid (HY1.out.drewN q4)
      replace HY2 := Lib.hid (HY2.out.drewN q4)
      have HB4 := Lib.hid (below_drewN HB3.out q4)
      go_wp2_with fail
      refine (sameRows_same _ _ _ [] HY1.out HY2.out).mono ?_
      rintro e w5 ⟨rfl, q5, rfl⟩
      replace HY1 := Lib.hid (HY1.out.drewN q5)
      replace HY2 := Lib.hid (HY2.out.drewN q5)
      have HB5 := Lib.hid (below_drewN HB4.out q5)
      have HF := Lib.hid (step_below HM.out HB5.out)
      go_wp2
      go_ret
      exact ⟨rfl, by first | exact HF.out | simpa using HF.out⟩
    | true =>
      have htr : trOf xss = trs xss := if_pos hok
      have htok := trs_in hok
      obtain ⟨e1', e2'⟩ := lq_tr hok (by omega)
      have HB := Lib.hid (fun (W : World) (v : Value) (hW : Below w1.heap.size w1 W) (hv : IntRows W v (trs xss)) => implQTurned_any W v (trs xss) hv)
      have HLE := Lib.hid (fun (W : World) (hW : Below w1.heap.size w1 W) => implQLeast_any W cv xss (HV.out.below hW) (HT1.out.later hW))
      have HLT := Lib.hid (fun (W : World) (v : Value) (hW : Below w1.heap.size w1 W) (hv : IntRows W v (trs xss)) => implQLeast_any W v (trs xss) hv (HT1.out.later hW))
      have HN := Lib.hid (fun (W : World) (hW : Below w1.heap.size w1 W) => Mx.implQNarrow_any W cv xss (HV.out.below hW) (HT1.out.later hW))
      have HNT := Lib.hid (fun (W : World) (v : Value) (hW : Below w1.heap.size w1 W) (hv : IntRows W v (trs xss)) => Mx.implQNarrow_any W v (trs xss) hv (HT1.out.later hW))
      have htt : trOf (trs xss) = xss := by rw [show trOf (trs xss) = trs (trs xss) from if_pos htok]; exact trs_twice hok
      rw [hok, htr] at HI HS
      rw [htok, htt] at HB
      rw [hok] at HLE HN
      rw [htok, e1'] at HLT
      rw [htok, e2'] at HNT
      obtain ⟨ts, hts⟩ : ∃ ts, trs xss = ts := ⟨_, rfl⟩
      obtain ⟨N, hN⟩ : ∃ N, nqC xss = N := ⟨_, rfl⟩
      obtain ⟨N2, hN2⟩ : ∃ N2, lqC xss = N2 := ⟨_, rfl⟩
      rw [hts] at HI HS HB HLT HNT
      rw [hN] at HN HNT
      rw [hN2] at HLE HLT
      clear hok htok htr htt e1' e2' hts hN hN2 hx4
      go_wp2_with fail
      refine (HI.out _ (Below.refl w1.heap.size w1)).mono ?_
      rintro e w2 ⟨v2, us2, rfl, hb2, ho2⟩
      have HB2 := Lib.hid (step_below (Below.refl w1.heap.size w1) hb2)
      have HY1 := Lib.hid (rows_of_owns ho2)
      clear hb2
      clear ho2
      go_wp2_with fail
      refine (HS.out _ HB2.out).mono ?_
      rintro e w3 ⟨v3, us3, rfl, hb3, ho3⟩
      replace HY1 := Lib.hid (HY1.out.below hb3)
      have HB3 := Lib.hid (step_below HB2.out hb3)
      have HY2 := Lib.hid (rows_of_owns ho3)
      clear hb3
      clear ho3
      go_wp2_with fail
      refine (sameRows_same _ _ _ ts HY1.out HY2.out).mono ?_
      rintro e w4 ⟨rfl, q4, rfl⟩
      replace HY1 := Lib.hid (HY1.out.drewN q4)
      replace HY2 := Lib.hid (HY2.out.drewN q4)
      have HB4 := Lib.hid (below_drewN HB3.out q4)
      go_wp2_with fail
      refine (HB.out _ _ HB4.out HY1.out).mono ?_
      rintro e w5 ⟨v5, us5, rfl, hb5, ho5⟩
      replace HY1 := Lib.hid (HY1.out.below hb5)
      replace HY2 := Lib.hid (HY2.out.below hb5)
      have HB5 := Lib.hid (step_below HB4.out hb5)
      have HY3 := Lib.hid (rows_of_owns ho5)
      clear hb5
      clear ho5
      go_wp2_with fail
      refine (HLE.out _ HB5.out).mono ?_
      rintro e w6 ⟨v6, rfl, hb6, ho6⟩
      replace HY1 := Lib.hid (HY1.out.below hb6)
      replace HY2 := Lib.hid (HY2.out.below hb6)
      replace HY3 := Lib.hid (HY3.out.below hb6)
      have HB6 := Lib.hid (step_below HB5.out hb6)
      clear hb6
      clear ho6
      go_wp2_with fail
      refine (HLT.out _ _ HB6.out HY1.out).mono ?_
      rintro e w7 ⟨v7, rfl, hb7, ho7⟩
      replace HY1 := Lib.hid (HY1.out.below hb7)
      replace HY2 := Lib.hid (HY2.out.below hb7)
      replace HY3 := Lib.hid (HY3.out.below hb7)
      have HB7 := Lib.hid (step_below HB6.out hb7)
      clear hb7
      clear ho7
      go_wp2_with fail
      refine (HN.out _ HB7.out).mono ?_
      rintro e w8 ⟨v8, rfl, hb8, ho8⟩
      replace HY1 := Lib.hid (HY1.out.below hb8)
      replace HY2 := Lib.hid (HY2.out.below hb8)
      replace HY3 := Lib.hid (HY3.out.below hb8)
      have HB8 := Lib.hid (step_below HB7.out hb8)
      clear hb8
      clear ho8
      go_wp2_with fail
      refine (HNT.out _ _ HB8.out HY1.out).mono ?_
      rintro e w9 ⟨v9, rfl, hb9, ho9⟩
      replace HY1 := Lib.hid (HY1.out.below hb9)
      replace HY2 := Lib.hid (HY2.out.below hb9)
      replace HY3 := Lib.hid (HY3.out.below hb9)
      have HB9 := Lib.hid (step_below HB8.out hb9)
      clear hb9
      clear ho9
      go_wp2_with fail
      refine (sameRows_same _ _ _ xss HY3.out (HV.out.below HB9.out)).mono ?_
      rintro e w10 ⟨rfl, q10, rfl⟩
      replace HY1 := Lib.hid (HY1.out.drewN q10)
      replace HY2 := Lib.hid (HY2.out.drewN q10)
      replace HY3 := Lib.hid (HY3.out.drewN q10)
      have HB10 := Lib.hid (below_drewN HB9.out q10)
      have HF := Lib.hid (step_below HM.out HB10.out)
      go_wp2
      go_ret
      exact ⟨rfl, by first | exact HF.out | simpa using HF.out⟩
  · have e1 : ((1048576 : Int) < (L : Int)) = True := by simp; omega
    go_enter Tryd.func9, Tryd.ntmps9
    go_wp2
    go_ret
    exact ⟨rfl, Below.refl _ _⟩

end Go.Proofs.YtjbgjebbfkhidabDoor
