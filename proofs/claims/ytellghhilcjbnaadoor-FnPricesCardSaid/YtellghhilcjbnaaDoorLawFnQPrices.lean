/-
  FnPrices: prices fit, and no price of a column is greater than 0.
-/
import Derived.Test.YtellghhilcjbnaaDoorDrawQ
import Derived.Test.YtellghhilcjbnaaDoorSpecQPrices
import Derived.Test.YtellghhilcjbnaaDoorPM
import Derived.Test.YtellghhilcjbnaaDoorFinQPrices
import Derived.Test.YtellghhilcjbnaaDoorFinQFit
import Derived.Test.YtellghhilcjbnaaDoorCore1
namespace Go.Proofs.YtellghhilcjbnaaDoor
set_option linter.unusedVariables false
set_option linter.unusedSimpArgs false
open Go.RowKit
set_option maxRecDepth 100000 in
set_option maxHeartbeats 4000000 in
theorem FnPrices_final (w : World) (A : Option Addr) (L cap : Nat) (hc : L ≤ cap) (hm : L ≤ maxLen) (hx : Code8 w A L) (hT : Tab w) :
    Calls Tryd.prog 4 #[.slice A L cap] w fun e w' => e = .returned (.bool true) ∧ Below w.heap.size w w' := by
  have HD := Lib.hid (DrawCostPrices_any w A L cap hc hm hx)
  have HT := Lib.hid hT
  clear hT
  unfold maxLen at hm
  clear hx
  by_cases hbig : L ≤ 1048576
  · have e1 : ((1048576 : Int) < (L : Int)) = False := by simp; omega
    go_enter Tryd.func4, Tryd.ntmps4
    go_wp2_with fail
    refine HD.out.mono ?_
    rintro e w1 ⟨cv, xss, rfl, hv, hbel⟩
    have HM := Lib.hid hbel
    have HV := Lib.hid hv
    have HT1 := Lib.hid (HT.out.later hbel)
    clear hbel hv
    have HI := Lib.hid (fun (W : World) (hW : Below w1.heap.size w1 W) => implQPrices_any W cv xss (HV.out.below hW) (HT1.out.later hW))
    have HS := Lib.hid (fun (W : World) (hW : Below w1.heap.size w1 W) => specQPrices_any W cv xss (HV.out.below hW))
    cases hok : cIn xss with
    | false =>
      have HE := Lib.hid (show pqOf xss = [] from by unfold pqOf; rw [hok]; rfl)
      rw [hok, HE.out] at HI HS
      clear hok
      go_wp2_with fail
      refine (HI.out _ (Below.refl w1.heap.size w1)).mono ?_
      rintro e w2 ⟨v2, rfl, hb2, ho2⟩
      have HB2 := Lib.hid (step_below (Below.refl w1.heap.size w1) hb2)
      have HY1 := Lib.hid (ints_of_owns ho2)
      clear hb2
      clear ho2
      go_wp2_with fail
      refine (HS.out _ HB2.out).mono ?_
      rintro e w3 ⟨v3, rfl, hb3, ho3⟩
      replace HY1 := Lib.hid (HY1.out.below hb3)
      have HB3 := Lib.hid (step_below HB2.out hb3)
      have HY2 := Lib.hid (ints_of_owns ho3)
      clear hb3
      clear ho3
      go_wp2_with fail
      refine (sameInts_same _ _ _ [] HY1.out HY2.out).mono ?_
      rintro e w4 ⟨rfl, q4, rfl⟩
      replace HY1 := Lib.hid (HY1.out.drewN q4)
      replace HY2 := Lib.hid (HY2.out.drewN q4)
      have HB4 := Lib.hid (below_drewN HB3.out q4)
      go_wp2_with fail
      refine (sameInts_same _ _ _ [] HY1.out HY2.out).mono ?_
      rintro e w5 ⟨rfl, q5, rfl⟩
      replace HY1 := Lib.hid (HY1.out.drewN q5)
      replace HY2 := Lib.hid (HY2.out.drewN q5)
      have HB5 := Lib.hid (below_drewN HB4.out q5)
      have HF := Lib.hid (step_below HM.out HB5.out)
      go_wp2
      go_ret
      exact ⟨rfl, by first | exact HF.out | simpa using HF.out⟩
    | true =>
      have hlow : ∀ j, j < xss.length → (pqOf xss).getD (xss.length + j) 0 ≤ 0 := fun j hj => by rw [pq_col hok hj]; exact (price_low hok (least_p hok) hj).2
      have hlen := pq_len hok
      have hx6 := (cIn_size hok).2
      have hfit := pq_fit hok
      rw [hok] at HI HS
      obtain ⟨ps, hps⟩ : ∃ ps, pqOf xss = ps := ⟨_, rfl⟩
      rw [hps] at HI HS hlow hlen hfit
      have HLOW := Lib.hid (And.intro hlow hlen)
      have HFT := Lib.hid (fun (W : World) (v : Value) (hW : Below w1.heap.size w1 W) (hi : Ints W v ps) (hc : CapOk v ps.length) => implQFit_any W cv v xss ps (HV.out.below hW) hi hc)
      rw [hfit] at HFT
      clear hok hps hlow hlen hfit
      go_wp2_with fail
      refine (HI.out _ (Below.refl w1.heap.size w1)).mono ?_
      rintro e w2 ⟨v2, rfl, hb2, ho2⟩
      have HB2 := Lib.hid (step_below (Below.refl w1.heap.size w1) hb2)
      have HY1 := Lib.hid (ints_of_owns ho2)
      clear hb2
      have HCAP := Lib.hid (cap_of_row ho2)
      clear ho2
      go_wp2_with fail
      refine (HS.out _ HB2.out).mono ?_
      rintro e w3 ⟨v3, rfl, hb3, ho3⟩
      replace HY1 := Lib.hid (HY1.out.below hb3)
      have HB3 := Lib.hid (step_below HB2.out hb3)
      have HY2 := Lib.hid (ints_of_owns ho3)
      clear hb3
      clear ho3
      go_wp2_with fail
      refine (sameInts_same _ _ _ ps HY1.out HY2.out).mono ?_
      rintro e w4 ⟨rfl, q4, rfl⟩
      replace HY1 := Lib.hid (HY1.out.drewN q4)
      replace HY2 := Lib.hid (HY2.out.drewN q4)
      have HB4 := Lib.hid (below_drewN HB3.out q4)
      have hy := HY1.out
      obtain ⟨A1, cap1, rfl, -, -⟩ := HV.out.at
      obtain ⟨A2, cap2, rfl, hm2, hc2⟩ := HY1.out
      have HC2 := Lib.hid hc2
      have HBX := Lib.hid HB4.out
      have HYX := Lib.hid hy
      obtain ⟨wx, hwx⟩ : ∃ wx, w3.drewN q4 = wx := ⟨_, rfl⟩
      simp only [hwx] at HC2 HBX HYX ⊢
      unfold maxLen at hm2
      clear hc2 hwx hy
      go_wp2
      go_loopw [9] (fun i wr => ∃ k q : Nat, k ≤ xss.length ∧ i = .int .i64 k ∧ wr = wx.drewN q) (fun i _ => xss.length - (intOf i).toNat)
      case atStart => exact ⟨0, 0, by omega, rfl, rfl⟩
      case round =>
        obtain ⟨k, q, hk, rfl, rfl⟩ := hrel
        by_cases hlt : k < xss.length
        · obtain ⟨m, hm⟩ : ∃ m, xss.length + k = m := ⟨_, rfl⟩
          have hml : m < ps.length := by have := HLOW.out.2; omega
          obtain ⟨b2, off2, rfl, hcell2⟩ := HC2.out m hml
          have hz0 := HLOW.out.1 k hlt
          rw [hm, show ps.getD m 0 = ps[m] by simp [List.getD, hml]] at hz0
          obtain ⟨z, hz⟩ : ∃ z, ps[m] = z := ⟨_, rfl⟩
          rw [hz] at hcell2 hz0
          have hng : ¬ (0 < z) := by omega
          have hmw1 : IntKind.i64.wrap ((xss.length : Int) + (k : Int)) = (m : Int) := by rw [IntKind.wrap_i64]; omega
          have hmw2 : wrap64 ((xss.length : Int) + (k : Int)) = (m : Int) := by rw [← wrap_eq]; exact hmw1
          have hki : (k : Int) < (xss.length : Int) := by omega
          have hmi : (m : Int) < (ps.length : Int) := by omega
          have hm0 : (0 : Int) ≤ (m : Int) := by omega
          clear hz hz0 hm hml
          go_wp2_with fail
          first
            | (go_quiet (fail); revert nq; intro n1)
            | (obtain ⟨n1, hn1⟩ : ∃ n1 : Nat, n1 = 0 := ⟨0, rfl⟩)
          go_wp2_with fail
          clear hmw1 hmw2
          go_roundw
          case rel => exact ⟨k + 1, q + n1, by omega, by go_num, by first | (simp; done) | (subst hn1; rfl)⟩
          case measure => simp [intOf]; omega
        · obtain rfl : k = xss.length := by omega
          go_wp2_with fail
          refine (HFT.out _ _ (below_drewN HBX.out q) (HYX.out.drewN q) HCAP.out).mono ?_
          rintro e w9 ⟨rfl, hb9⟩
          have HF := Lib.hid (step_below HM.out (step_below (below_drewN HBX.out q) hb9))
          clear hb9
          go_wp2
          go_ret
          exact ⟨rfl, by first | exact HF.out | simpa using HF.out⟩
  · have e1 : ((1048576 : Int) < (L : Int)) = True := by simp; omega
    go_enter Tryd.func4, Tryd.ntmps4
    go_wp2
    go_ret
    exact ⟨rfl, Below.refl _ _⟩

end Go.Proofs.YtellghhilcjbnaaDoor
