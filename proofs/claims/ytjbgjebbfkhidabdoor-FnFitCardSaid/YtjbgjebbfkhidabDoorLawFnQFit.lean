/-
  FnFit: prices that fit pay at most the least cost.
-/
import Derived.Test.YtjbgjebbfkhidabDoorDrawFit
import Derived.Test.YtjbgjebbfkhidabDoorFinQFit
import Derived.Test.YtjbgjebbfkhidabDoorFitMath
import Derived.Test.YtjbgjebbfkhidabDoorFinQLeast
namespace Go.Proofs.YtjbgjebbfkhidabDoor
set_option linter.unusedVariables false
set_option linter.unusedSimpArgs false
open Go.RowKit

set_option maxRecDepth 100000 in
set_option maxHeartbeats 4000000 in
theorem FnFit_final (w : World) (A : Option Addr) (L cap : Nat) (hc : L ≤ cap) (hm : L ≤ maxLen) (hx : Code8 w A L) (hT : Tab w) :
    Calls Tryd.prog 8 #[.slice A L cap] w fun e w' => e = .returned (.bool true) ∧ Below w.heap.size w w' := by
  have HD := Lib.hid (DrawCostFit_any w A L cap hc hm hx)
  have HT := Lib.hid hT
  clear hT
  unfold maxLen at hm
  clear hx
  by_cases hbig : L ≤ 1048576
  · have e1 : ((1048576 : Int) < (L : Int)) = False := by simp; omega
    go_enter Tryd.func8, Tryd.ntmps8
    go_wp2_with fail
    refine HD.out.mono ?_
    rintro e w1 ⟨cv, uv, xss, ps, lo, rfl, hv, hu, hx4, hbel⟩
    have HM := Lib.hid hbel
    have HV := Lib.hid hv
    have HU := Lib.hid hu
    have HT1 := Lib.hid (HT.out.later hbel)
    clear hbel hv hu
    have HCAP := Lib.hid (cap_of_row HU.out)
    have HI := Lib.hid (fun (W : World) (hW : Below w1.heap.size w1 W) => implQFit_any W cv uv xss ps (HV.out.below hW) ((ints_of_owns HU.out).below hW) HCAP.out)
    have HS := Lib.hid (fun (W : World) (hW : Below w1.heap.size w1 W) => specQFit_any W cv uv xss ps (HV.out.below hW) ((ints_of_owns HU.out).below hW))
    cases hok : fitOk xss ps with
    | false =>
      rw [hok] at HI HS
      clear hok hx4
      go_wp2_with fail
      refine (HI.out _ (Below.refl w1.heap.size w1)).mono ?_
      rintro e w2 ⟨rfl, hb2⟩
      have HB2 := Lib.hid (step_below (Below.refl w1.heap.size w1) hb2)
      clear hb2
      go_wp2_with fail
      refine (HS.out _ HB2.out).mono ?_
      rintro e w3 ⟨rfl, hb3⟩
      have HB3 := Lib.hid (step_below HB2.out hb3)
      clear hb3
      have HF := Lib.hid (step_below HM.out HB3.out)
      go_wp2
      go_ret
      exact ⟨rfl, by first | exact HF.out | simpa using HF.out⟩
    | true =>
      obtain ⟨hci, hpl, hbd, -⟩ := fit_parts hok
      have hle := fit_least hok hx4
      have HLE := Lib.hid (fun (W : World) (hW : Below w1.heap.size w1 W) => implQLeast_any W cv xss (HV.out.below hW) (HT1.out.later hW))
      rw [hok] at HI HS
      rw [hci] at HLE
      obtain ⟨N, hN⟩ : ∃ N, lqC xss = N := ⟨_, rfl⟩
      rw [hN] at HLE hle
      have hp8 : ps.length ≤ 8 := by omega
      have HCH := Lib.hid (And.intro hle hbd)
      clear hok hx4 hci hpl hle hbd hN
      go_wp2_with fail
      refine (HI.out _ (Below.refl w1.heap.size w1)).mono ?_
      rintro e w2 ⟨rfl, hb2⟩
      have HB2 := Lib.hid (step_below (Below.refl w1.heap.size w1) hb2)
      clear hb2
      go_wp2_with fail
      refine (HS.out _ HB2.out).mono ?_
      rintro e w3 ⟨rfl, hb3⟩
      have HB3 := Lib.hid (step_below HB2.out hb3)
      clear hb3
      go_wp2_with fail
      refine (HLE.out _ HB3.out).mono ?_
      rintro e w4 ⟨v4, rfl, hb4, ho4⟩
      have HB4 := Lib.hid (step_below HB3.out hb4)
      clear hb4
      clear ho4
      obtain ⟨A2, cap2, rfl, hm2, hc2⟩ := (ints_of_owns HU.out).below HB4.out
      have HC2 := Lib.hid hc2
      obtain ⟨wx, hwx⟩ : ∃ wx, w4 = wx := ⟨_, rfl⟩
      have HBX := Lib.hid HB4.out
      rw [hwx] at HC2 HBX ⊢
      unfold maxLen at hm2
      clear hc2 hwx
      go_wp2
      go_loopw [10, 11] (fun t i wr => ∃ k q : Nat, k ≤ ps.length ∧ t = .int .i64 (sumTo8 ps k) ∧ i = .int .i64 k ∧ wr = wx.drewN q) (fun _ i _ => ps.length - (intOf i).toNat)
      case atStart => exact ⟨0, 0, by omega, rfl, rfl, rfl⟩
      case round =>
        obtain ⟨k, q, hk, rfl, rfl, rfl⟩ := hrel
        by_cases hlt : k < ps.length
        · obtain ⟨b2, off2, rfl, hcell2⟩ := HC2.out k hlt
          have hb := sumTo8_bound HCH.out.2 k
          have hx := HCH.out.2 _ (List.getElem_mem hlt)
          have hst : sumTo8 ps (k + 1) = sumTo8 ps k + ps[k] := by
            show sumTo8 ps k + ps.getD k 0 = _
            rw [show ps.getD k 0 = ps[k] by simp [List.getD, hlt]]
          obtain ⟨z, hz⟩ : ∃ z, ps[k] = z := ⟨_, rfl⟩
          rw [hz] at hcell2 hst hx
          obtain ⟨s, hs⟩ : ∃ s, sumTo8 ps k = s := ⟨_, rfl⟩
          rw [hs] at hb hst ⊢
          obtain ⟨t, ht⟩ : ∃ t, s + z = t := ⟨_, rfl⟩
          rw [ht] at hst
          have htb : -1000000 ≤ t ∧ t ≤ 1000000 := by omega
          have hw1 : IntKind.i64.wrap t = t := by rw [IntKind.wrap_i64]; omega
          have hw2 : wrap64 t = t := by rw [← wrap_eq]; exact hw1
          have HST := Lib.hid hst
          have hki : (k : Int) < (ps.length : Int) := by omega
          have hk0 : (0 : Int) ≤ (k : Int) := by omega
          clear hb hx hst hz hs htb
          go_wp2_with fail
          first
            | (go_quiet (fail); revert nq; intro n1)
            | (obtain ⟨n1, hn1⟩ : ∃ n1 : Nat, n1 = 0 := ⟨0, rfl⟩)
          go_wp2_with fail
          clear hw1 hw2
          go_roundw
          case rel => exact ⟨k + 1, q + n1, by omega, by rw [HST.out], by go_num, by first | (simp; done) | (subst hn1; rfl)⟩
          case measure => simp [intOf]; omega
        · obtain rfl : k = ps.length := by omega
          have hle := HCH.out.1
          have HF := Lib.hid (below_drewN (step_below HM.out HBX.out) q)
          go_wp2
          go_ret
          exact ⟨rfl, by first | exact HF.out | simpa using HF.out⟩
  · have e1 : ((1048576 : Int) < (L : Int)) = True := by simp; omega
    go_enter Tryd.func8, Tryd.ntmps8
    go_wp2
    go_ret
    exact ⟨rfl, Below.refl _ _⟩

end Go.Proofs.YtjbgjebbfkhidabDoor
