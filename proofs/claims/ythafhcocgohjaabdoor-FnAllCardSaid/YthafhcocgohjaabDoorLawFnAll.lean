/-
  FnAll: all matchings: without a node, and with each of its neighbours.
-/
import Derived.Test.YthafhcocgohjaabDoorDraw1
import Derived.Test.YthafhcocgohjaabDoorAllMath
import Derived.Test.YthafhcocgohjaabDoorSpecGreat
import Derived.Test.YthafhcocgohjaabDoorWithoutAny
import Derived.Test.YthafhcocgohjaabDoorShr
namespace Go.Proofs.YthafhcocgohjaabDoor
set_option linter.unusedVariables false
set_option linter.unusedSimpArgs false
open Go.RowKit

set_option maxRecDepth 100000 in
set_option maxHeartbeats 400000 in
theorem DrawMatchAll_some (w : World) (A : Option Addr) (L cap : Nat) (hc : L ≤ cap) (hm : L ≤ maxLen) (hx : Code8 w A L) :
    Calls Tryd.prog 35 #[.slice A L cap] w (GivesList w 7) := by
  have HO := Lib.hid (some_any w A L cap hc hm hx)
  clear hx hm hc
  go_enter Tryd.func35, Tryd.ntmps35
  go_wp2_with fail
  refine HO.out.mono ?_
  rintro e w1 ⟨G, xs, rfl, h1, h7, hI, hb1, hi⟩
  have HH := Lib.hid (And.intro hI (And.intro hb1 hi))
  clear hI hb1 hi
  go_wp2
  go_ret
  exact ⟨G, xs, rfl, h1, h7, HH.out.1, HH.out.2.1, HH.out.2.2⟩

set_option maxRecDepth 100000 in
set_option maxHeartbeats 4000000 in
theorem FnAll_final (w : World) (A : Option Addr) (L cap : Nat) (hc : L ≤ cap) (hm : L ≤ maxLen) (hx : Code8 w A L) (hT : Tab w) :
    Calls Tryd.prog 8 #[.slice A L cap] w fun e w' => e = .returned (.bool true) ∧ Below w.heap.size w w' := by
  have HD := Lib.hid (DrawMatchAll_some w A L cap hc hm hx)
  have HT := Lib.hid hT
  unfold maxLen at hm
  clear hx hT
  by_cases hbig : L ≤ 1048576
  · have e1 : ((1048576 : Int) < (L : Int)) = False := by simp; omega
    go_enter Tryd.func8, Tryd.ntmps8
    go_wp2_with fail
    refine HD.out.mono ?_
    rintro e w1 ⟨G, xs, rfl, h1, h7, hI, hb1, hi⟩
    have HI := Lib.hid hi
    have HB1 := Lib.hid hb1
    have HII := Lib.hid hI
    clear hI hi hb1
    have hS := implAll_any w1 _ xs HI.out HII.out (HT.out.later HB1.out)
    have HP := Lib.hid (fun W (hW : Ints W (.slice (some ⟨G, 0, none⟩) xs.length xs.length) xs) => specAll_any W _ xs hW)
    cases hg : gIn xs with
    | false =>
      obtain ⟨r, hr⟩ : ∃ r, sumOf xs = r := ⟨_, rfl⟩
      rw [hg, hr] at hS HP
      have HS := Lib.hid hS
      clear hS hg hr
      go_wp2_with fail
      refine HS.out.mono ?_
      rintro e w2 ⟨rfl, hb2⟩
      go_wp2_with fail
      refine (HP.out _ (HI.out.below hb2)).mono ?_
      rintro e w3 ⟨rfl, hb3⟩
      go_wp2
      go_ret
      exact ⟨rfl, step_below (step_below HB1.out hb2) hb3⟩
    | true =>
      obtain ⟨_, h8, hoko⟩ := gIn_parts hg
      have hrec := all_rec hg
      have hso : sumOf xs = (tot (gfun xs) (2 ^ xs.length - 1) : Nat) := sumOf_yes hg
      rw [hg, hso] at hS HP
      have hTL := tot_le (gfun xs) (all256 h8)
      have hrow : ∀ i (hi : i < xs.length), xs[i] = (gfun xs i : Int) ∧ gfun xs i < 256 := fun k hk => row_value h8 hoko hk
      have HS := Lib.hid hS
      have HG := Lib.hid hg
      have HREC := Lib.hid hrec
      have HRW := Lib.hid hrow
      have HTL := Lib.hid hTL
      clear hS hg hrec hso hrow hTL
      go_wp2_with fail
      refine HS.out.mono ?_
      rintro e w2 ⟨rfl, hb2⟩
      go_wp2_with fail
      refine (HP.out _ (HI.out.below hb2)).mono ?_
      rintro e w3 ⟨rfl, hb3⟩
      have HBB := Lib.hid (step_below (step_below HB1.out hb2) hb3)
      have HI3 := Lib.hid ((HI.out.below hb2).below hb3)
      clear hb2 hb3
      by_cases h2 : xs.length < 2
      · have hx1 : xs.length = 1 := by omega
        have h1T : tot (gfun xs) (2 ^ xs.length - 1) = 1 := by
          rw [HREC.out, hx1]
          have e1 : wo (2 ^ 1 - 1) 0 = 0 := by decide
          have e2 : sumN (addAt (gfun xs) 1) 1 = 0 := by
            show 0 + addAt (gfun xs) 1 0 = 0
            unfold addAt
            rw [if_neg (by rw [gIn_irr HG.out ⟨0, by decide⟩]; simp)]
          rw [e1, e2, tot_zero]
        have h2i : (xs.length : Int) < 2 := by omega
        rw [h1T]
        clear h2 hx1 h1T
        go_wp2
        go_ret
        exact ⟨rfl, HBB.out⟩
      · obtain ⟨ho, hol, hog, hoI, _⟩ := out_facts (v := 0) HG.out (by omega) (by omega)
        have h2i : ¬ (xs.length : Int) < 2 := by omega
        have hW := implWithout_any w3 _ xs ((0 : Nat) : Int) HI3.out HII.out (HT.out.later HBB.out)
        have h1 := tot_one HG.out (by omega)
        obtain ⟨ys, hy⟩ : ∃ ys, outOf xs ((0 : Nat) : Int) = ys := ⟨_, rfl⟩
        rw [ho, hy] at hW
        have htwo := fun (v : Nat) (h3 : 3 ≤ xs.length) (hv1 : 1 ≤ v) (hv : v < xs.length) => tot_two HG.out h3 hv1 hv
        rw [hy] at htwo
        have HTW := Lib.hid htwo
        rw [hy] at hol hog hoI h1
        have hGk := fun W (u : Value) (hW : Ints W u ys) (hTW : Tab W) => implAll_any W u ys hW hoI hTW
        rw [hog, h1] at hGk
        obtain ⟨T0, hT0⟩ : ∃ T0, tot (gfun xs) (wo (2 ^ xs.length - 1) 0) = T0 := ⟨_, rfl⟩
        rw [hT0] at hGk
        have HT0 := Lib.hid hT0
        have hT0l : T0 ≤ 215233605 := by rw [← hT0]; exact tot_le _ (wo_256 (all256 h8))
        have HW := Lib.hid hW
        have HK := Lib.hid hGk
        have HOI := Lib.hid hoI
        have hA0 : sumN (addAt (gfun xs) xs.length) 1 = 0 := by
          show 0 + addAt (gfun xs) xs.length 0 = 0
          unfold addAt
          rw [if_neg (by rw [gIn_irr HG.out ⟨0, by decide⟩]; simp)]
        have hAl : ∀ k, addAt (gfun xs) xs.length k ≤ 215233605 := fun k => by
          unfold addAt
          split
          · exact tot_le _ (wo_256 (wo_256 (all256 h8)))
          · omega
        have HA0 := Lib.hid hA0
        have HAL := Lib.hid hAl
        have HOL := Lib.hid hol
        clear hol h2 ho hog hoI hW hy h1 hGk hT0 hA0 hAl htwo
        go_wp2_with fail
        refine HW.out.mono ?_
        rintro e w4 ⟨y0, rfl, hb4, ho4⟩
        have HY := Lib.hid (ints_of_owns ho4)
        have HB4 := Lib.hid (step_below HBB.out hb4)
        have HI4 := Lib.hid (HI3.out.below hb4)
        clear hb4 ho4
        go_wp2_with fail
        refine (HK.out _ _ HY.out (HT.out.later HB4.out)).mono ?_
        rintro e w5 ⟨rfl, hb5⟩
        have HB5 := Lib.hid (step_below HB4.out hb5)
        have HI5 := Lib.hid (HI4.out.below hb5)
        have HY5 := Lib.hid (HY.out.below hb5)
        clear hb5
        obtain ⟨A3, cap3, he3, hm3, hc3⟩ := HI5.out
        obtain ⟨rfl, rfl⟩ : A3 = some ⟨G, 0, none⟩ ∧ cap3 = xs.length := by simpa using he3.symm
        obtain ⟨A4, cap4, rfl, hm4, hc4⟩ := HY5.out
        have HC3 := Lib.hid hc3
        clear hc3 hc4 he3 hm3 hm4
        go_wp2
        go_loopw [10, 12, 13, 14, 15, 16] (fun s i _ _ _ _ wr => ∃ k : Nat, 1 ≤ k ∧ k ≤ xs.length ∧ i = .int .i64 k ∧ s = .int .i64 ((T0 + sumN (addAt (gfun xs) xs.length) k : Nat) : Int) ∧ Below w5.heap.size w5 wr) (fun _ i _ _ _ _ _ => xs.length - (intOf i).toNat)
        case atStart => exact ⟨1, by omega, by omega, rfl, by rw [HA0.out]; rfl, Below.refl _ _⟩
        case round =>
          obtain ⟨k, hk1, hk, rfl, rfl, hbr⟩ := hrel
          have hsk := sumN_le (h := addAt (gfun xs) xs.length) (c := 215233605) k (fun i _ => HAL.out i)
          have hk9 : k ≤ 8 := by omega
          have hsk2 : sumN (addAt (gfun xs) xs.length) k ≤ 1721868840 := Nat.le_trans hsk (Nat.mul_le_mul_left _ hk9)
          by_cases hlt : k < xs.length
          · obtain ⟨j, hj⟩ : ∃ j, j + 1 = k := ⟨k - 1, by omega⟩
            have hIr := HI5.out.below hbr
            have hYr := HY5.out.below hbr
            have hTr := (HT.out.later HB5.out).later hbr
            obtain ⟨A6, cap6, he6, _, hc6⟩ := hIr
            obtain ⟨rfl, rfl⟩ : A6 = some ⟨G, 0, none⟩ ∧ cap6 = xs.length := by simpa using he6.symm
            obtain ⟨b0, off0, hba, hcell⟩ := hc6 0 (by omega)
            obtain ⟨rfl, rfl⟩ : G = b0 ∧ 0 = off0 := by simpa using hba
            rw [(HRW.out 0 (by omega)).1, Nat.zero_add] at hcell
            have hf8 := (HRW.out 0 (by omega)).2
            have hnx := sumN_succ (addAt (gfun xs) xs.length) k
            have hki : (k : Int) < (xs.length : Int) := by omega
            have hk64 : (k : Int) < 64 := by omega
            have hk0 : (0 : Int) ≤ (k : Int) := by omega
            have hx0 : (0 : Int) < (xs.length : Int) := by omega
            cases hbt : (gfun xs 0).testBit k with
            | false =>
              obtain ⟨t1, t0⟩ := shr_is (gfun xs 0) k hf8 false hbt
              rw [Bool.not_false] at t0
              have hadd : addAt (gfun xs) xs.length k = 0 := by unfold addAt; rw [if_neg (by rw [hbt]; simp)]
              rw [hadd, Nat.add_zero] at hnx
              have HNX := Lib.hid hnx
              obtain ⟨s, hs⟩ : ∃ s, sumN (addAt (gfun xs) xs.length) k = s := ⟨_, rfl⟩
              rw [hs] at hsk2
              have HS2 := Lib.hid hs
              rw [hs]
              clear hnx hadd hbt hsk he6 hba hc6 hYr hTr hs hj
              go_wp2
              go_roundw
              all_goals first | exact ⟨k + 1, by omega, by omega, by go_num, by rw [HNX.out, HS2.out]; rfl, hbr⟩ | (simp [intOf]; omega)
            | true =>
              obtain ⟨t1, t0⟩ := shr_is (gfun xs 0) k hf8 true hbt
              rw [Bool.not_true] at t0
              have hadd : addAt (gfun xs) xs.length k = tot (gfun xs) (wo (wo (2 ^ xs.length - 1) 0) k) := by unfold addAt; rw [if_pos hbt]
              have hk1' := HAL.out k
              rw [hadd] at hnx hk1'
              by_cases hy1 : ys.length = 1
              · have hx2 : xs.length = 2 := by have := HOL.out; omega
                have hone : tot (gfun xs) (wo (wo (2 ^ xs.length - 1) 0) k) = 1 := by
                  obtain rfl : k = 1 := by omega
                  rw [hx2, show wo (wo (2 ^ 2 - 1) 0) 1 = 0 by decide, tot_zero]
                rw [hone] at hnx
                have HNX := Lib.hid hnx
                obtain ⟨s, hs⟩ : ∃ s, sumN (addAt (gfun xs) xs.length) k = s := ⟨_, rfl⟩
                rw [hs] at hsk2
                have HS2 := Lib.hid hs
                rw [hs]
                have hy1i : ((ys.length : Int) == 1) = true := by rw [beq_iff_eq]; omega
                clear hnx hadd hbt hsk he6 hba hc6 hYr hTr hs hj hy1 hx2 hone hk1'
                go_wp2
                go_roundw
                all_goals first | exact ⟨k + 1, by omega, by omega, by go_num, by rw [HNX.out, HS2.out]; go_num, hbr⟩ | (simp [intOf]; omega)
              · have h3 : 3 ≤ xs.length := by have := HOL.out; omega
                have htw := HTW.out k h3 hk1 hlt
                rw [show k - 1 = j by omega] at htw
                obtain ⟨zg, zo, zI, zs⟩ := htw
                have hWz := implWithout_any wr _ ys ((j : Nat) : Int) hYr HOI.out hTr
                obtain ⟨zl, hzl⟩ : ∃ zl, outOf ys ((j : Nat) : Int) = zl := ⟨_, rfl⟩
                rw [zo, hzl] at hWz
                rw [hzl] at zg zI zs
                have hAz := fun W (u : Value) (hW : Ints W u zl) (hTW : Tab W) => implAll_any W u zl hW zI hTW
                rw [zg, zs] at hAz
                obtain ⟨T, hTe⟩ : ∃ T, tot (gfun xs) (wo (wo (2 ^ xs.length - 1) 0) k) = T := ⟨_, rfl⟩
                rw [hTe] at hnx hAz hk1'
                obtain ⟨s, hs⟩ : ∃ s, sumN (addAt (gfun xs) xs.length) k = s := ⟨_, rfl⟩
                rw [hs] at hsk2
                have HS2 := Lib.hid hs
                rw [hs]
                have HNX := Lib.hid hnx
                have HWZ := Lib.hid hWz
                have HAZ := Lib.hid hAz
                have HTR := Lib.hid hTr
                have hy1i : ((ys.length : Int) == 1) = false := by rw [beq_eq_false_iff_ne]; have := HOL.out; omega
                have hm1 : (k : Int) - 1 = (j : Int) := by omega
                have hm2 : IntKind.i64.wrap ((k : Int) - 1) = (j : Int) := by rw [hm1]; exact wraps_i64 _ (by omega) (by omega)
                have hm3 := (wrap_eq _).symm.trans hm2
                clear hnx hadd hbt hsk he6 hba hc6 hYr hTr hs hy1 h3 zo hWz hAz zI zs zg hzl hTe hj
                go_wp2_with fail
                with_reducible refine HWZ.out.mono ?_
                rintro e w6 ⟨z0, rfl, hb6, ho6⟩
                have HB6 := Lib.hid hb6
                have HZ6 := Lib.hid (ints_of_owns ho6)
                clear hb6 ho6
                go_wp2_with fail
                refine (HAZ.out _ _ HZ6.out (HTR.out.later HB6.out)).mono ?_
                rintro e w7 ⟨rfl, hb7⟩
                have HB7 := Lib.hid (hbr.trans ((HB6.out.mono hbr.size).trans (hb7.mono (Nat.le_trans hbr.size HB6.out.size))))
                clear hb7
                go_wp2
                go_roundw
                all_goals first | exact ⟨k + 1, by omega, by omega, by go_num, by rw [HNX.out, HS2.out]; go_num, HB7.out⟩ | (simp [intOf]; omega)
          · obtain rfl : k = xs.length := by omega
            have hr := HREC.out
            rw [HT0.out] at hr
            have hTL := HTL.out
            rw [hr] at hTL ⊢
            obtain ⟨X, hX⟩ : ∃ X, T0 + sumN (addAt (gfun xs) xs.length) xs.length = X := ⟨_, rfl⟩
            rw [hX] at hTL ⊢
            clear hr hX hsk hsk2
            go_wp2
            go_ret
            exact ⟨rfl, step_below HB5.out hbr⟩
  · have e1 : ((1048576 : Int) < (L : Int)) = True := by simp; omega
    go_enter Tryd.func8, Tryd.ntmps8
    go_wp2
    go_ret
    exact ⟨rfl, Below.refl _ _⟩

end Go.Proofs.YthafhcocgohjaabDoor
