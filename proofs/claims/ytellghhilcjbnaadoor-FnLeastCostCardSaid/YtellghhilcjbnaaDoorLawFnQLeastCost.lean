/-
  FnLeastCost: the sum of the prices is the least cost.
-/
import Derived.Test.YtellghhilcjbnaaDoorDrawC4L
import Derived.Test.YtellghhilcjbnaaDoorSpecQPrices
import Derived.Test.YtellghhilcjbnaaDoorPM
import Derived.Test.YtellghhilcjbnaaDoorFinQPrices
import Derived.Test.YtellghhilcjbnaaDoorFinQLeast
import Derived.Test.YtellghhilcjbnaaDoorCore1
namespace Go.Proofs.YtellghhilcjbnaaDoor
set_option linter.unusedVariables false
set_option linter.unusedSimpArgs false
open Go.RowKit
set_option maxRecDepth 100000 in
set_option maxHeartbeats 4000000 in
theorem FnLeastCost_final (w : World) (A : Option Addr) (L cap : Nat) (hc : L ≤ cap) (hm : L ≤ maxLen) (hx : Code8 w A L) (hT : Tab w) :
    Calls Tryd.prog 5 #[.slice A L cap] w fun e w' => e = .returned (.bool true) ∧ Below w.heap.size w w' := by
  have HD := Lib.hid (DrawCostLeast4_any w A L cap hc hm hx)
  have HT := Lib.hid hT
  clear hT
  unfold maxLen at hm
  clear hx
  by_cases hbig : L ≤ 1048576
  · have e1 : ((1048576 : Int) < (L : Int)) = False := by simp; omega
    go_enter Tryd.func5, Tryd.ntmps5
    go_wp2_with fail
    refine HD.out.mono ?_
    rintro e w1 ⟨cv, xss, rfl, hv, hx4, hbel⟩
    have HM := Lib.hid hbel
    have HV := Lib.hid hv
    have HT1 := Lib.hid (HT.out.later hbel)
    clear hbel hv
    have HI := Lib.hid (fun (W : World) (hW : Below w1.heap.size w1 W) => implQLeast_any W cv xss (HV.out.below hW) (HT1.out.later hW))
    have HS := Lib.hid (fun (W : World) (hW : Below w1.heap.size w1 W) => specQLeast_any W cv xss (HV.out.below hW))
    cases hok : cIn xss with
    | false =>
      have HE := Lib.hid (And.intro (show lqOf xss = [] from by unfold lqOf; rw [hok]; rfl) (show lqC xss = 0 from by unfold lqC; rw [hok]; rfl))
      rw [hok, HE.out.1, HE.out.2] at HI HS
      clear hok hx4
      go_wp2_with fail
      refine (HI.out _ (Below.refl w1.heap.size w1)).mono ?_
      rintro e w2 ⟨v2, rfl, hb2, ho2⟩
      have HB2 := Lib.hid (step_below (Below.refl w1.heap.size w1) hb2)
      have HY1 := Lib.hid (ints_of_owns ho2)
      clear hb2
      clear ho2
      go_wp2_with fail
      refine (HS.out _ HB2.out).mono ?_
      rintro e w3 ⟨v3, rfl, hb3, ho3⟩
      replace HY1 := Lib.hid (HY1.out.below hb3)
      have HB3 := Lib.hid (step_below HB2.out hb3)
      have HY2 := Lib.hid (ints_of_owns ho3)
      clear hb3
      clear ho3
      go_wp2_with fail
      refine (sameInts_same _ _ _ [] HY1.out HY2.out).mono ?_
      rintro e w4 ⟨rfl, q4, rfl⟩
      replace HY1 := Lib.hid (HY1.out.drewN q4)
      replace HY2 := Lib.hid (HY2.out.drewN q4)
      have HB4 := Lib.hid (below_drewN HB3.out q4)
      go_wp2_with fail
      refine (sameInts_same _ _ _ [] HY1.out HY2.out).mono ?_
      rintro e w5 ⟨rfl, q5, rfl⟩
      replace HY1 := Lib.hid (HY1.out.drewN q5)
      replace HY2 := Lib.hid (HY2.out.drewN q5)
      have HB5 := Lib.hid (below_drewN HB4.out q5)
      have HF := Lib.hid (step_below HM.out HB5.out)
      go_wp2
      go_ret
      exact ⟨rfl, by first | exact HF.out | simpa using HF.out⟩
    | true =>
      have HP := Lib.hid (fun (W : World) (hW : Below w1.heap.size w1 W) => implQPrices_any W cv xss (HV.out.below hW) (HT1.out.later hW))
      have hsum := pq_sum hok hx4
      have hpay := fun i (hi : i < xss.length) => pq_pay hok hi
      have hlen := pq_len hok
      have hbnd := (fit_parts (pq_fit hok)).2.2.1
      have hrk := (least_p hok).1
      have hch := (choice_of hok (least_p hok).1)
      rw [hok] at HI HS HP
      obtain ⟨ps, hps⟩ : ∃ ps, pqOf xss = ps := ⟨_, rfl⟩
      obtain ⟨qs, hqs⟩ : ∃ qs, lqOf xss = qs := ⟨_, rfl⟩
      obtain ⟨N, hN⟩ : ∃ N, lqC xss = N := ⟨_, rfl⟩
      rw [hps] at HP hsum hpay hlen hbnd
      rw [hqs] at HI HS hpay hch
      rw [hN] at HI HS hsum
      have HALL := Lib.hid (And.intro hsum (And.intro hpay (And.intro hlen (And.intro hbnd hch))))
      clear hok hps hqs hN hsum hpay hlen hbnd hch hrk
      go_wp2_with fail
      refine (HI.out _ (Below.refl w1.heap.size w1)).mono ?_
      rintro e w2 ⟨v2, rfl, hb2, ho2⟩
      have HB2 := Lib.hid (step_below (Below.refl w1.heap.size w1) hb2)
      have HY1 := Lib.hid (ints_of_owns ho2)
      clear hb2
      clear ho2
      go_wp2_with fail
      refine (HS.out _ HB2.out).mono ?_
      rintro e w3 ⟨v3, rfl, hb3, ho3⟩
      replace HY1 := Lib.hid (HY1.out.below hb3)
      have HB3 := Lib.hid (step_below HB2.out hb3)
      have HY2 := Lib.hid (ints_of_owns ho3)
      clear hb3
      clear ho3
      go_wp2_with fail
      refine (sameInts_same _ _ _ qs HY1.out HY2.out).mono ?_
      rintro e w4 ⟨rfl, q4, rfl⟩
      replace HY1 := Lib.hid (HY1.out.drewN q4)
      replace HY2 := Lib.hid (HY2.out.drewN q4)
      have HB4 := Lib.hid (below_drewN HB3.out q4)
      go_wp2_with fail
      refine (HP.out _ HB4.out).mono ?_
      rintro e w5 ⟨v5, rfl, hb5, ho5⟩
      replace HY1 := Lib.hid (HY1.out.below hb5)
      replace HY2 := Lib.hid (HY2.out.below hb5)
      have HB5 := Lib.hid (step_below HB4.out hb5)
      have HY3 := Lib.hid (ints_of_owns ho5)
      clear hb5
      clear ho5
      obtain ⟨A1, cap1, rfl, hm1, hc1⟩ := (HV.out.below HB5.out).at
      obtain ⟨A2, cap2, rfl, hm2, hc2⟩ := HY1.out
      obtain ⟨A3, cap3, rfl, hm3, hc3⟩ := HY3.out
      have HC1 := Lib.hid hc1
      have HC2 := Lib.hid hc2
      have HC3 := Lib.hid hc3
      obtain ⟨wx, hwx⟩ : ∃ wx, w5 = wx := ⟨_, rfl⟩
      have HBX := Lib.hid HB5.out
      rw [hwx] at HC1 HC2 HC3 HBX ⊢
      unfold maxLen at hm1 hm2 hm3
      obtain ⟨m2, hm2'⟩ : ∃ m2, ps.length = m2 := ⟨_, rfl⟩
      have hdb : (2 : Int) * (xss.length : Int) = (m2 : Int) := by have := HALL.out.2.2.1; omega
      have hw1 : IntKind.i64.wrap (2 * (xss.length : Int)) = (m2 : Int) := by rw [hdb, IntKind.wrap_i64]; omega
      have hw2 : wrap64 (2 * (xss.length : Int)) = (m2 : Int) := by rw [← wrap_eq]; exact hw1
      have HM2 := Lib.hid hm2'
      have HW := Lib.hid (And.intro hw1 hw2)
      clear hc1 hc2 hc3 hwx hm2' hdb hw1 hw2
      go_wp2
      go_loopw [13, 14] (fun t i wr => ∃ k q : Nat, k ≤ m2 ∧ t = .int .i64 (sumTo8 ps k) ∧ i = .int .i64 k ∧ wr = wx.drewN q) (fun _ i _ => m2 - (intOf i).toNat)
      case atStart => exact ⟨0, 0, by omega, rfl, rfl, rfl⟩
      case round =>
        obtain ⟨k, q, hk, rfl, rfl, rfl⟩ := hrel
        by_cases hlt : k < m2
        · obtain ⟨b2, off2, rfl, hcell2⟩ := HC3.out k (by rw [HM2.out]; exact hlt)
          have hb := sumTo8_bound HALL.out.2.2.2.1 k
          have hx := HALL.out.2.2.2.1 _ (List.getElem_mem (show k < ps.length by rw [HM2.out]; exact hlt))
          have hkl : k < ps.length := by rw [HM2.out]; exact hlt
          have hst : sumTo8 ps (k + 1) = sumTo8 ps k + ps[k] := by
            show sumTo8 ps k + ps.getD k 0 = _
            rw [show ps.getD k 0 = ps[k] by simp [List.getD, hkl]]
          obtain ⟨z, hz⟩ : ∃ z, ps[k] = z := ⟨_, rfl⟩
          rw [hz] at hcell2 hst hx
          obtain ⟨s, hs⟩ : ∃ s, sumTo8 ps k = s := ⟨_, rfl⟩
          rw [hs] at hb hst ⊢
          obtain ⟨t, ht⟩ : ∃ t, s + z = t := ⟨_, rfl⟩
          rw [ht] at hst
          have h12 : m2 ≤ 12 := by have := HALL.out.2.2.1; have := HALL.out.2.2.2.2.h6; have := HM2.out; omega
          have htb : -10000000 ≤ t ∧ t ≤ 10000000 := by omega
          have HST := Lib.hid hst
          have hki : (k : Int) < (m2 : Int) := by omega
          have hkp : (k : Int) < (ps.length : Int) := by omega
          have hk0 : (0 : Int) ≤ (k : Int) := by omega
          have hw3 : IntKind.i64.wrap t = t := by rw [IntKind.wrap_i64]; omega
          have hw4 : wrap64 t = t := by rw [← wrap_eq]; exact hw3
          obtain ⟨hw1, hw2⟩ := HW.out
          clear hb hx hst hz hs htb hkl h12
          go_wp2_with fail
          first
            | (go_quiet (fail); revert nq; intro n1)
            | (obtain ⟨n1, hn1⟩ : ∃ n1 : Nat, n1 = 0 := ⟨0, rfl⟩)
          go_wp2_with fail
          clear hw1 hw2 hw3 hw4
          go_roundw
          case rel => exact ⟨k + 1, q + n1, by omega, by rw [HST.out], by go_num, by first | (simp; done) | (subst hn1; rfl)⟩
          case measure => simp [intOf]; omega
        · obtain rfl : k = m2 := by omega
          have hfin : sumTo8 ps k = N := by have := HALL.out.1; rw [HM2.out] at this; exact this
          rw [hfin]
          obtain ⟨hw1, hw2⟩ := HW.out
          go_wp2_with fail
          clear hw1 hw2
          go_loopw [15] (fun i wr => ∃ j r : Nat, j ≤ xss.length ∧ i = .int .i64 j ∧ wr = wx.drewN r) (fun i _ => xss.length - (intOf i).toNat)
          case atStart => exact ⟨0, q, by omega, rfl, rfl⟩
          case round =>
            obtain ⟨j, r, hj, rfl, rfl⟩ := hrel
            by_cases hjl : j < xss.length
            · obtain ⟨m, hk2, hmm, hpm, hmn, he, hb1, hb2⟩ := HALL.out.2.2.2.2.at (show j < qs.length by rw [HALL.out.2.2.2.2.len]; exact hjl)
              obtain ⟨b, off, u, rfl, hcell, hints⟩ := HC1.out j hk2
              obtain ⟨A4, cap4, rfl, hm4, hc4⟩ := hints
              obtain ⟨b4, off4, rfl, hcell4⟩ := hc4 m hmm
              obtain ⟨b2, off2, rfl, hcell2⟩ := HC2.out j (by rw [HALL.out.2.2.2.2.len]; exact hjl)
              rw [hpm] at hcell2
              have hl2 := HALL.out.2.2.1
              have how : ownC qs j = m := by
                have : j < qs.length := by rw [HALL.out.2.2.2.2.len]; exact hjl
                unfold ownC
                rw [show qs.getD j 0 = qs[j] by simp [List.getD, this], hpm, Int.toNat_natCast]
              obtain ⟨nm, hnm⟩ : ∃ nm, xss.length + m = nm := ⟨_, rfl⟩
              have hjp : j < ps.length := by omega
              have hnp : nm < ps.length := by omega
              obtain ⟨b3, off3, rfl, hcell3⟩ := HC3.out j hjp
              obtain ⟨b5, off5, hA5, hcell5⟩ := HC3.out nm hnp
              obtain ⟨rfl, rfl⟩ : _ ∧ _ := by simpa using hA5
              have hpay := HALL.out.2.1 j hjl
              rw [how, hnm, show ps.getD j 0 = ps[j] by simp [List.getD, hjp], show ps.getD nm 0 = ps[nm] by simp [List.getD, hnp]] at hpay
              have ez : xss[j][m] = colC xss j m := by unfold colC; rw [show xss.getD j [] = xss[j] by simp [List.getD, hjl]]; simp [List.getD, hmm]
              rw [← ez] at hpay
              obtain ⟨x, hx⟩ : ∃ x, ps[j] = x := ⟨_, rfl⟩
              obtain ⟨y, hy⟩ : ∃ y, ps[nm] = y := ⟨_, rfl⟩
              obtain ⟨z, hz⟩ : ∃ z, xss[j][m] = z := ⟨_, rfl⟩
              rw [hx] at hcell3 hpay
              rw [hy] at hcell5 hpay
              rw [hz] at hcell4 hb1 hb2 hpay
              have v1 : IntKind.i64.wrap (x + y) = z := by rw [hpay, IntKind.wrap_i64]; omega
              have v3 : IntKind.i64.wrap ((xss.length : Int) + (m : Int)) = (nm : Int) := by rw [IntKind.wrap_i64]; omega
              have HV3 := Lib.hid (And.intro v1 v3)
              clear v1 v3
              have hji : (j : Int) < (xss.length : Int) := by omega
              have hj0 : (0 : Int) ≤ (j : Int) := by omega
              have hjq : (j : Int) < (qs.length : Int) := by have := HALL.out.2.2.2.2.len; omega
              have hjp' : (j : Int) < (ps.length : Int) := by omega
              have hni : (nm : Int) < (ps.length : Int) := by omega
              have hn0 : (0 : Int) ≤ (nm : Int) := by omega
              have hmi : (m : Int) < (xss[j].length : Int) := by omega
              have hm0 : (0 : Int) ≤ (m : Int) := by omega
              obtain ⟨v1, v3⟩ := HV3.out
              have v2 : wrap64 (x + y) = z := by rw [← wrap_eq]; exact v1
              have v4 : wrap64 ((xss.length : Int) + (m : Int)) = (nm : Int) := by rw [← wrap_eq]; exact v3
              clear hpay hx hy hz hb1 hb2 ez how hnm hjp hnp hA5 he hpm hl2 hmm hc4 hmn
              go_wp2_with fail
              go_quiet (fail)
              revert nq; intro n2
              go_wp2_with fail
              clear v1 v2 v3 v4
              go_roundw
              case rel => exact ⟨j + 1, r + n2, by omega, by go_num, by simp⟩
              case measure => simp [intOf]; omega
            · obtain rfl : j = xss.length := by omega
              have HF := Lib.hid (below_drewN (step_below HM.out HBX.out) r)
              go_wp2
              go_ret
              exact ⟨rfl, by first | exact HF.out | simpa using HF.out⟩
  · have e1 : ((1048576 : Int) < (L : Int)) = True := by simp; omega
    go_enter Tryd.func5, Tryd.ntmps5
    go_wp2
    go_ret
    exact ⟨rfl, Below.refl _ _⟩

end Go.Proofs.YtellghhilcjbnaaDoor
