/-
  FnCostOf: no choice costs less than the least one.
-/
import Derived.Test.YtjbgjebbfkhidabDoorDrawQ
import Derived.Test.YtjbgjebbfkhidabDoorFinQLeast
import Derived.Test.YtjbgjebbfkhidabDoorMoreMath
namespace Go.Proofs.YtjbgjebbfkhidabDoor
set_option linter.unusedVariables false
set_option linter.unusedSimpArgs false
open Go.RowKit

set_option maxRecDepth 100000 in
set_option maxHeartbeats 4000000 in
theorem FnCostOf_final (w : World) (A : Option Addr) (L cap : Nat) (hc : L ≤ cap) (hm : L ≤ maxLen) (hx : Code8 w A L) (hT : Tab w) :
    Calls Tryd.prog 7 #[.slice A L cap] w fun e w' => e = .returned (.bool true) ∧ Below w.heap.size w w' := by
  have HD := Lib.hid (DrawCostOf_any w A L cap hc hm hx)
  have HT := Lib.hid hT
  clear hT
  unfold maxLen at hm
  clear hx
  by_cases hbig : L ≤ 1048576
  · have e1 : ((1048576 : Int) < (L : Int)) = False := by simp; omega
    go_enter Tryd.func7, Tryd.ntmps7
    go_wp2_with fail
    refine HD.out.mono ?_
    rintro e w1 ⟨cv, uv, xss, ps, rfl, hv, hu, hbel⟩
    have HM := Lib.hid hbel
    have HV := Lib.hid hv
    have HU := Lib.hid hu
    have HT1 := Lib.hid (HT.out.later hbel)
    clear hbel hv hu
    have HI := Lib.hid (fun (W : World) (hW : Below w1.heap.size w1 W) => implQOf_any W cv uv xss ps (HV.out.below hW) (HU.out.below hW))
    have HS := Lib.hid (fun (W : World) (hW : Below w1.heap.size w1 W) => specQOf_any W cv uv xss ps (HV.out.below hW) (HU.out.below hW))
    cases hok : ofB xss ps with
    | false =>
      have hz : ofC xss ps = 0 := by unfold ofC; rw [hok]; rfl
      rw [hok, hz] at HI HS
      clear hok hz
      go_wp2_with fail
      refine (HI.out _ (Below.refl w1.heap.size w1)).mono ?_
      rintro e w2 ⟨rfl, hb2⟩
      have HB2 := Lib.hid (step_below (Below.refl w1.heap.size w1) hb2)
      clear hb2
      go_wp2_with fail
      refine (HS.out _ HB2.out).mono ?_
      rintro e w3 ⟨rfl, hb3⟩
      have HB3 := Lib.hid (step_below HB2.out hb3)
      clear hb3
      have HF := Lib.hid (step_below HM.out HB3.out)
      go_wp2
      go_ret
      exact ⟨rfl, by first | exact HF.out | simpa using HF.out⟩
    | true =>
      obtain ⟨hc, hle, -⟩ := least_le hok
      have HLE := Lib.hid (fun (W : World) (hW : Below w1.heap.size w1 W) => implQLeast_any W cv xss (HV.out.below hW) (HT1.out.later hW))
      obtain ⟨z, hz⟩ : ∃ z, lqC xss = z := ⟨_, rfl⟩
      obtain ⟨y, hy⟩ : ∃ y, ofC xss ps = y := ⟨_, rfl⟩
      rw [hok, hy] at HI HS
      rw [hc, hz] at HLE
      rw [hz, hy] at hle
      clear hok hc hz hy
      go_wp2_with fail
      refine (HI.out _ (Below.refl w1.heap.size w1)).mono ?_
      rintro e w2 ⟨rfl, hb2⟩
      have HB2 := Lib.hid (step_below (Below.refl w1.heap.size w1) hb2)
      clear hb2
      go_wp2_with fail
      refine (HS.out _ HB2.out).mono ?_
      rintro e w3 ⟨rfl, hb3⟩
      have HB3 := Lib.hid (step_below HB2.out hb3)
      clear hb3
      go_wp2_with fail
      refine (HLE.out _ HB3.out).mono ?_
      rintro e w4 ⟨v4, rfl, hb4, ho4⟩
      have HB4 := Lib.hid (step_below HB3.out hb4)
      clear hb4
      clear ho4
      have HF := Lib.hid (step_below HM.out HB4.out)
      go_wp2
      go_ret
      exact ⟨rfl, by first | exact HF.out | simpa using HF.out⟩
  · have e1 : ((1048576 : Int) < (L : Int)) = True := by simp; omega
    go_enter Tryd.func7, Tryd.ntmps7
    go_wp2
    go_ret
    exact ⟨rfl, Below.refl _ _⟩

end Go.Proofs.YtjbgjebbfkhidabDoor
