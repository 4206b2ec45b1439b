/-
  FnNarrow: the narrowest choice touches its number, and no choice stays below it.
-/
import Derived.Test.YtjbgjebbfkhidabDoorDrawQ
import Derived.Test.YtjbgjebbfkhidabDoorFinQNarrow
import Derived.Test.YtjbgjebbfkhidabDoorNarrowMath
import Derived.Test.YtjbgjebbfkhidabDoorFinQLeast
import Derived.Test.YtjbgjebbfkhidabDoorCore1
namespace Go.Proofs.YtjbgjebbfkhidabDoor
set_option linter.unusedVariables false
set_option linter.unusedSimpArgs false
open Go.RowKit

set_option maxRecDepth 100000 in
set_option maxHeartbeats 4000000 in
theorem FnNarrow_final (w : World) (A : Option Addr) (L cap : Nat) (hc : L ≤ cap) (hm : L ≤ maxLen) (hx : Code8 w A L) (hT : Tab w) :
    Calls Tryd.prog 11 #[.slice A L cap] w fun e w' => e = .returned (.bool true) ∧ Below w.heap.size w w' := by
  have HD := Lib.hid (DrawCostNarrow_any w A L cap hc hm hx)
  have HT := Lib.hid hT
  clear hT
  unfold maxLen at hm
  clear hx
  by_cases hbig : L ≤ 1048576
  · have e1 : ((1048576 : Int) < (L : Int)) = False := by simp; omega
    go_enter Tryd.func11, Tryd.ntmps11
    go_wp2_with fail
    refine HD.out.mono ?_
    rintro e w1 ⟨cv, xss, rfl, hv, hbel⟩
    have HM := Lib.hid hbel
    have HV := Lib.hid hv
    have HT1 := Lib.hid (HT.out.later hbel)
    clear hbel hv
    have HI := Lib.hid (fun (W : World) (hW : Below w1.heap.size w1 W) => Mx.implQNarrow_any W cv xss (HV.out.below hW) (HT1.out.later hW))
    have HS := Lib.hid (fun (W : World) (hW : Below w1.heap.size w1 W) => specQNarrow_any W cv xss (HV.out.below hW))
    cases hok : cIn xss with
    | false =>
      have HE := Lib.hid (And.intro (show nqOf xss = [] from by unfold nqOf; rw [hok]; rfl) (show nqC xss = 0 from by unfold nqC; rw [hok]; rfl))
      rw [hok, HE.out.1, HE.out.2] at HI HS
      clear hok
      go_wp2_with fail
      refine (HI.out _ (Below.refl w1.heap.size w1)).mono ?_
      rintro e w2 ⟨v2, rfl, hb2, ho2⟩
      have HB2 := Lib.hid (step_below (Below.refl w1.heap.size w1) hb2)
      have HY1 := Lib.hid (ints_of_owns ho2)
      clear hb2
      clear ho2
      go_wp2_with fail
      refine (HS.out _ HB2.out).mono ?_
      rintro e w3 ⟨v3, rfl, hb3, ho3⟩
      replace HY1 := Lib.hid (HY1.out.below hb3)
      have HB3 := Lib.hid (step_below HB2.out hb3)
      have HY2 := Lib.hid (ints_of_owns ho3)
      clear hb3
      clear ho3
      go_wp2_with fail
      refine (sameInts_same _ _ _ [] HY1.out HY2.out).mono ?_
      rintro e w4 ⟨rfl, q4, rfl⟩
      replace HY1 := Lib.hid (HY1.out.drewN q4)
      replace HY2 := Lib.hid (HY2.out.drewN q4)
      have HB4 := Lib.hid (below_drewN HB3.out q4)
      go_wp2_with fail
      refine (sameInts_same _ _ _ [] HY1.out HY2.out).mono ?_
      rintro e w5 ⟨rfl, q5, rfl⟩
      replace HY1 := Lib.hid (HY1.out.drewN q5)
      replace HY2 := Lib.hid (HY2.out.drewN q5)
      have HB5 := Lib.hid (below_drewN HB4.out q5)
      have HF := Lib.hid (step_below HM.out HB5.out)
      go_wp2
      go_ret
      exact ⟨rfl, by first | exact HF.out | simpa using HF.out⟩
    | true =>
      have HLE := Lib.hid (fun (W : World) (hW : Below w1.heap.size w1 W) => implQLeast_any W cv xss (HV.out.below hW) (HT1.out.later hW))
      obtain ⟨ch1, ch2, hall, hT1, hA1⟩ := narrow_facts hok
      rw [hok] at HI HS HLE
      obtain ⟨ps, hps⟩ : ∃ ps, nqOf xss = ps := ⟨_, rfl⟩
      obtain ⟨qs, hqs⟩ : ∃ qs, lqOf xss = qs := ⟨_, rfl⟩
      obtain ⟨N, hN⟩ : ∃ N, nqC xss = N := ⟨_, rfl⟩
      obtain ⟨N2, hN2⟩ : ∃ N2, lqC xss = N2 := ⟨_, rfl⟩
      rw [hps, hN] at HI HS
      rw [hqs, hN2] at HLE
      rw [hps] at ch1
      rw [hqs] at ch2
      rw [hps, hN] at hall hT1
      rw [hqs, hN] at hA1
      have HCH := Lib.hid (And.intro ch1 (And.intro ch2 (And.intro hall (And.intro hT1 hA1))))
      clear ch1 ch2 hall hT1 hA1 hok hps hqs hN hN2
      go_wp2_with fail
      refine (HI.out _ (Below.refl w1.heap.size w1)).mono ?_
      rintro e w2 ⟨v2, rfl, hb2, ho2⟩
      have HB2 := Lib.hid (step_below (Below.refl w1.heap.size w1) hb2)
      have HY1 := Lib.hid (ints_of_owns ho2)
      clear hb2
      clear ho2
      go_wp2_with fail
      refine (HS.out _ HB2.out).mono ?_
      rintro e w3 ⟨v3, rfl, hb3, ho3⟩
      replace HY1 := Lib.hid (HY1.out.below hb3)
      have HB3 := Lib.hid (step_below HB2.out hb3)
      have HY2 := Lib.hid (ints_of_owns ho3)
      clear hb3
      clear ho3
      go_wp2_with fail
      refine (sameInts_same _ _ _ ps HY1.out HY2.out).mono ?_
      rintro e w4 ⟨rfl, q4, rfl⟩
      replace HY1 := Lib.hid (HY1.out.drewN q4)
      replace HY2 := Lib.hid (HY2.out.drewN q4)
      have HB4 := Lib.hid (below_drewN HB3.out q4)
      go_wp2_with fail
      refine (HLE.out _ HB4.out).mono ?_
      rintro e w5 ⟨v5, rfl, hb5, ho5⟩
      replace HY1 := Lib.hid (HY1.out.below hb5)
      replace HY2 := Lib.hid (HY2.out.below hb5)
      have HB5 := Lib.hid (step_below HB4.out hb5)
      have HY3 := Lib.hid (ints_of_owns ho5)
      clear hb5
      clear ho5
      obtain ⟨A1, cap1, rfl, hm1, hc1⟩ := (HV.out.below HB5.out).at
      obtain ⟨A2, cap2, rfl, hm2, hc2⟩ := HY1.out
      obtain ⟨A3, cap3, rfl, hm3, hc3⟩ := HY3.out
      have HC1 := Lib.hid hc1
      have HC2 := Lib.hid hc2
      have HC3 := Lib.hid hc3
      obtain ⟨wx, hwx⟩ : ∃ wx, w5 = wx := ⟨_, rfl⟩
      have HBX := Lib.hid HB5.out
      rw [hwx] at HC1 HC2 HC3 HBX ⊢
      have hl1 : ps.length = xss.length := HCH.out.1.len
      have hl2 : qs.length = xss.length := HCH.out.2.1.len
      have HLL := Lib.hid (And.intro hl1 hl2)
      have hm9 : xss.length ≤ 6 := HCH.out.1.h6
      unfold maxLen at hm1 hm2 hm3
      clear hc1 hc2 hc3 hl1 hl2 hwx
      go_wp2
      go_loopw [13, 14, 15] (fun t a i wr => ∃ k q : Nat, k ≤ xss.length ∧ t = .bool (anyTo (fun j => entI xss ps j == N) k) ∧ a = .bool (anyTo (fun j => decide (N ≤ entI xss qs j)) k) ∧ i = .int .i64 k ∧ wr = wx.drewN q) (fun _ _ i _ => xss.length - (intOf i).toNat)
      case atStart => exact ⟨0, 0, by omega, rfl, rfl, rfl, rfl⟩
      case round =>
        obtain ⟨k, q, hk, rfl, rfl, rfl, rfl⟩ := hrel
        by_cases hlt : k < xss.length
        · obtain ⟨m, hk2, hmm, hpm, hmn, he, hb1, hb2⟩ := HCH.out.1.at (show k < ps.length by rw [HLL.out.1]; exact hlt)
          obtain ⟨n, hk3, hnm, hpn, hnn, he2, hb3, hb4⟩ := HCH.out.2.1.at (show k < qs.length by rw [HLL.out.2]; exact hlt)
          obtain ⟨b, off, u, rfl, hcell, hints⟩ := HC1.out k hk2
          obtain ⟨A4, cap4, rfl, hm4, hc4⟩ := hints
          obtain ⟨b4, off4, rfl, hcell4⟩ := hc4 m hmm
          obtain ⟨b5, off5, hA5, hcell5⟩ := hc4 n hnm
          obtain ⟨rfl, rfl⟩ : _ ∧ _ := by simpa using hA5
          obtain ⟨b2, off2, rfl, hcell2⟩ := HC2.out k (by rw [HLL.out.1]; exact hlt)
          obtain ⟨b3, off3, rfl, hcell3⟩ := HC3.out k (by rw [HLL.out.2]; exact hlt)
          rw [hpm] at hcell2
          rw [hpn] at hcell3
          have hle := HCH.out.2.2.1 k hlt
          have hT1 : anyTo (fun j => entI xss ps j == N) (k + 1) = (anyTo (fun j => entI xss ps j == N) k || (entI xss ps k == N)) := rfl
          have hA1 : anyTo (fun j => decide (N ≤ entI xss qs j)) (k + 1) = (anyTo (fun j => decide (N ≤ entI xss qs j)) k || decide (N ≤ entI xss qs k)) := rfl
          rw [show entI xss ps k = xss[k][m] from he] at hle hT1
          rw [show entI xss qs k = xss[k][n] from he2] at hA1
          obtain ⟨z, hz⟩ : ∃ z, xss[k][m] = z := ⟨_, rfl⟩
          obtain ⟨y, hy⟩ : ∃ y, xss[k][n] = y := ⟨_, rfl⟩
          rw [hz] at hcell4 hle hT1
          rw [hy] at hcell5 hA1
          obtain ⟨t0, ht0⟩ : ∃ t0, anyTo (fun j => entI xss ps j == N) k = t0 := ⟨_, rfl⟩
          obtain ⟨a0, ha0⟩ : ∃ a0, anyTo (fun j => decide (N ≤ entI xss qs j)) k = a0 := ⟨_, rfl⟩
          rw [ht0] at hT1 ⊢
          rw [ha0] at hA1 ⊢
          have HT1' := Lib.hid hT1
          have HA1' := Lib.hid hA1
          have hng : ¬ (N < z) := by omega
          have hki : (k : Int) < (ps.length : Int) := by rw [HLL.out.1]; omega
          have hki3 : (k : Int) < (qs.length : Int) := by rw [HLL.out.2]; omega
          have hki2 : (k : Int) < (xss.length : Int) := by omega
          have hk0 : (0 : Int) ≤ (k : Int) := by omega
          have hmi : (m : Int) < (xss[k].length : Int) := by omega
          have hm0 : (0 : Int) ≤ (m : Int) := by omega
          have hni : (n : Int) < (xss[k].length : Int) := by omega
          have hn0 : (0 : Int) ≤ (n : Int) := by omega
          unfold maxLen at hm4
          clear hc4 hpm hpn hmm hnm he he2 hz hy hT1 hA1 hb1 hb2 hb3 hb4 hA5 hle ht0 ha0 hmn hnn
          cases t0 <;> cases a0 <;>
          · go_wp2
            go_quiet (fail)
            revert nq; intro n1
            go_wp2
            go_quiet (fail)
            revert nq; intro n2
            go_wp2
            go_quiet (fail)
            revert nq; intro n3
            go_wp2
            go_roundw
            case rel => exact ⟨k + 1, q + n1 + n2 + n3, by omega, by rw [HT1'.out]; rfl, by rw [HA1'.out]; rfl, by go_num, by simp⟩
            case measure => simp [intOf]; omega
        · obtain rfl : k = xss.length := by omega
          obtain ⟨-, -, -, hT1, hA1⟩ := HCH.out
          rw [hT1, hA1]
          have HF := Lib.hid (below_drewN (step_below HM.out HBX.out) q)
          clear hT1 hA1
          go_wp2
          go_ret
          exact ⟨rfl, by first | exact HF.out | simpa using HF.out⟩
  · have e1 : ((1048576 : Int) < (L : Int)) = True := by simp; omega
    go_enter Tryd.func11, Tryd.ntmps11
    go_wp2
    go_ret
    exact ⟨rfl, Below.refl _ _⟩

end Go.Proofs.YtjbgjebbfkhidabDoor
