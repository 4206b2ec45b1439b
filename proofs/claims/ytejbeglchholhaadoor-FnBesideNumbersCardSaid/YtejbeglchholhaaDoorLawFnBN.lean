/-
  FnBesideNumbers: the matchings of two graphs beside each other are products, their greatest ones sums.
-/
import Derived.Test.YtejbeglchholhaaDoorDrawBes
import Derived.Test.YtejbeglchholhaaDoorBesTot
import Derived.Test.YtejbeglchholhaaDoorSpecBes
import Derived.Test.YtejbeglchholhaaDoorImplBesY
import Derived.Test.YtejbeglchholhaaDoorImplAll
import Derived.Test.YtejbeglchholhaaDoorImplNums
import Derived.Test.YtejbeglchholhaaDoorSame
namespace Go.Proofs.YtejbeglchholhaaDoor
set_option linter.unusedVariables false
set_option linter.unusedSimpArgs false
open Go.RowKit

set_option maxRecDepth 100000 in
set_option maxHeartbeats 4000000 in
theorem FnBesideNumbers_final (w : World) (A : Option Addr) (L cap : Nat) (hc : L ≤ cap) (hm : L ≤ maxLen) (hx : Code8 w A L) (hT : Tab w) :
    Calls Tryd.prog 3 #[.slice A L cap] w fun e w' => e = .returned (.bool true) ∧ Below w.heap.size w w' := by
  have HD := Lib.hid (DrawGraphBeside_any w A L cap hc hm hx)
  have HT := Lib.hid hT
  unfold maxLen at hm
  clear hx hT
  by_cases hbig : L ≤ 1048576
  · have e1 : ((1048576 : Int) < (L : Int)) = False := by simp; omega
    go_enter Tryd.func3, Tryd.ntmps3
    go_wp2_with fail
    refine HD.out.mono ?_
    rintro e w1 ⟨G, xs, H, ys, rfl, h1, h4, g1, g5, hI, hJ, hb1, hi, hj⟩
    have HI := Lib.hid hi
    have HJ := Lib.hid hj
    have HB1 := Lib.hid hb1
    have HII := Lib.hid hI
    have HJJ := Lib.hid hJ
    clear hI hJ hi hj hb1
    have hS := implBeside_any w1 _ _ xs ys HI.out HJ.out HII.out HJJ.out (HT.out.later HB1.out)
    have HP := Lib.hid (fun W (hW : Ints W (.slice (some ⟨G, 0, none⟩) xs.length xs.length) xs) (hV : Ints W (.slice (some ⟨H, 0, none⟩) ys.length ys.length) ys) => specBeside_any W _ _ xs ys hW hV)
    cases hg : besOk xs ys with
    | false =>
      obtain ⟨zs, hz⟩ : ∃ zs, besOf xs ys = zs := ⟨_, rfl⟩
      rw [hg, hz] at hS HP
      have HS := Lib.hid hS
      clear hS hg hz
      go_wp2_with fail
      refine HS.out.mono ?_
      rintro e w2 ⟨g0, rfl, hb2, ho2⟩
      go_wp2_with fail
      refine (HP.out _ (HI.out.below hb2) (HJ.out.below hb2)).mono ?_
      rintro e w3 ⟨s0, rfl, hb3, ho3⟩
      have HBB := Lib.hid (step_below (step_below HB1.out hb2) hb3)
      have HY1 := Lib.hid ((ints_of_owns ho2).below hb3)
      have HY2 := Lib.hid (ints_of_owns ho3)
      clear hb2 hb3 ho2 ho3
      go_wp2_with fail
      refine (sameInts_same _ _ _ zs HY1.out HY2.out).mono ?_
      rintro e w4 ⟨rfl, q, rfl⟩
      go_wp2_with fail
      refine (sameInts_same _ _ _ zs (HY1.out.drewN q) (HY2.out.drewN q)).mono ?_
      rintro e w5 ⟨rfl, q2, rfl⟩
      go_wp2
      go_ret
      exact ⟨rfl, below_drewN HBB.out _⟩
    | true =>
      have hok2 := hg
      unfold besOk at hok2
      simp only [Bool.and_eq_true, decide_eq_true_eq] at hok2
      obtain ⟨⟨hgx, hgy⟩, h8⟩ := hok2
      obtain ⟨hgz, hzI, hzl⟩ := bes_in hg
      have htot := bes_tot hg h4 g5
      have hgr := bes_gr hg h4 g5
      have tx := tot_le (gfun xs) (all256 (show xs.length ≤ 8 by omega))
      have ty := tot_le (gfun ys) (all256 (show ys.length ≤ 8 by omega))
      have tz := tot_le (gfun (besOf xs ys)) (all256 h8)
      have gx := gr_le4 (f := gfun xs) (s := 2 ^ xs.length - 1)
      have gy := gr_le4 (f := gfun ys) (s := 2 ^ ys.length - 1)
      have hAx := fun W (u : Value) (hW : Ints W u xs) (hTW : Tab W) => implAll_any W u xs hW HII.out hTW
      have hAy := fun W (u : Value) (hW : Ints W u ys) (hTW : Tab W) => implAll_any W u ys hW HJJ.out hTW
      have hAz := fun W (u : Value) (hW : Ints W u (besOf xs ys)) (hTW : Tab W) => implAll_any W u _ hW hzI hTW
      have hGx := fun W (u : Value) (hW : Ints W u xs) (hTW : Tab W) => implGreatest_any W u xs hW HII.out hTW
      have hGy := fun W (u : Value) (hW : Ints W u ys) (hTW : Tab W) => implGreatest_any W u ys hW HJJ.out hTW
      have hGz := fun W (u : Value) (hW : Ints W u (besOf xs ys)) (hTW : Tab W) => implGreatest_any W u _ hW hzI hTW
      rw [hgx, sumOf_yes hgx] at hAx
      rw [hgy, sumOf_yes hgy] at hAy
      rw [hgz, sumOf_yes hgz, hzl] at hAz
      rw [hgx, if_pos rfl] at hGx
      rw [hgy, if_pos rfl] at hGy
      rw [hgz, if_pos rfl, hzl] at hGz
      unfold tot at htot tx ty tz
      obtain ⟨a, ha⟩ : ∃ a, sum5 (nums (gfun xs) (2 ^ xs.length - 1)) 5 = a := ⟨_, rfl⟩
      obtain ⟨b, hb⟩ : ∃ b, sum5 (nums (gfun ys) (2 ^ ys.length - 1)) 5 = b := ⟨_, rfl⟩
      obtain ⟨d, hd⟩ : ∃ d, gr (gfun xs) (2 ^ xs.length - 1) = d := ⟨_, rfl⟩
      obtain ⟨f, hf⟩ : ∃ f, gr (gfun ys) (2 ^ ys.length - 1) = f := ⟨_, rfl⟩
      rw [ha, hb] at htot
      rw [hd, hf] at hgr
      rw [ha] at hAx tx
      rw [hb] at hAy ty
      rw [htot] at hAz tz
      rw [hd] at hGx gx
      rw [hf] at hGy gy
      rw [hgr] at hGz
      obtain ⟨c, hc2⟩ : ∃ c, a * b = c := ⟨_, rfl⟩
      rw [hc2] at hAz tz
      have hci : (a : Int) * (b : Int) = (c : Int) := by rw [← Int.natCast_mul, hc2]
      obtain ⟨zs, hz⟩ : ∃ zs, besOf xs ys = zs := ⟨_, rfl⟩
      rw [hg, hz] at hS HP
      rw [hz] at hAz hGz
      have HS := Lib.hid hS
      have HAX := Lib.hid hAx
      have HAY := Lib.hid hAy
      have HAZ := Lib.hid hAz
      have HGX := Lib.hid hGx
      have HGY := Lib.hid hGy
      have HGZ := Lib.hid hGz
      clear hS hg hz hAx hAy hAz hGx hGy hGz hgx hgy hgz hzI hzl htot hgr ha hb hd hf hc2
      go_wp2_with fail
      refine HS.out.mono ?_
      rintro e w2 ⟨g0, rfl, hb2, ho2⟩
      go_wp2_with fail
      refine (HP.out _ (HI.out.below hb2) (HJ.out.below hb2)).mono ?_
      rintro e w3 ⟨s0, rfl, hb3, ho3⟩
      have HBB := Lib.hid (step_below (step_below HB1.out hb2) hb3)
      have HI3 := Lib.hid ((HI.out.below hb2).below hb3)
      have HJ3 := Lib.hid ((HJ.out.below hb2).below hb3)
      have HY1 := Lib.hid ((ints_of_owns ho2).below hb3)
      have HY2 := Lib.hid (ints_of_owns ho3)
      clear hb2 hb3 ho2 ho3
      go_wp2_with fail
      refine (sameInts_same _ _ _ zs HY1.out HY2.out).mono ?_
      rintro e w4 ⟨rfl, q, rfl⟩
      have HB4 := Lib.hid (below_drewN HBB.out q)
      have HI4 := Lib.hid (HI3.out.drewN q)
      have HJ4 := Lib.hid (HJ3.out.drewN q)
      have HZ4 := Lib.hid (HY1.out.drewN q)
      obtain ⟨w5, hw5⟩ : ∃ w5, w3.drewN q = w5 := ⟨_, rfl⟩
      rw [hw5] at HB4 HI4 HJ4 HZ4
      rw [hw5]
      clear hw5
      go_wp2_with fail
      refine (HAX.out _ _ HI4.out (HT.out.later HB4.out)).mono ?_
      rintro e w6 ⟨rfl, hb6⟩
      have HB6 := Lib.hid (step_below HB4.out hb6)
      have HI6 := Lib.hid (HI4.out.below hb6)
      have HJ6 := Lib.hid (HJ4.out.below hb6)
      have HZ6 := Lib.hid (HZ4.out.below hb6)
      clear hb6
      go_wp2_with fail
      refine (HAY.out _ _ HJ6.out (HT.out.later HB6.out)).mono ?_
      rintro e w7 ⟨rfl, hb7⟩
      have HB7 := Lib.hid (step_below HB6.out hb7)
      have HI7 := Lib.hid (HI6.out.below hb7)
      have HJ7 := Lib.hid (HJ6.out.below hb7)
      have HZ7 := Lib.hid (HZ6.out.below hb7)
      clear hb7
      go_wp2_with fail
      refine (HAZ.out _ _ HZ7.out (HT.out.later HB7.out)).mono ?_
      rintro e w8 ⟨rfl, hb8⟩
      have HB8 := Lib.hid (step_below HB7.out hb8)
      have HI8 := Lib.hid (HI7.out.below hb8)
      have HJ8 := Lib.hid (HJ7.out.below hb8)
      have HZ8 := Lib.hid (HZ7.out.below hb8)
      clear hb8
      go_wp2_with fail
      refine (HGX.out _ _ HI8.out (HT.out.later HB8.out)).mono ?_
      rintro e w9 ⟨rfl, hb9⟩
      have HB9 := Lib.hid (step_below HB8.out hb9)
      have HJ9 := Lib.hid (HJ8.out.below hb9)
      have HZ9 := Lib.hid (HZ8.out.below hb9)
      clear hb9
      go_wp2_with fail
      refine (HGY.out _ _ HJ9.out (HT.out.later HB9.out)).mono ?_
      rintro e w10 ⟨rfl, hb10⟩
      have HB10 := Lib.hid (step_below HB9.out hb10)
      have HZ10 := Lib.hid (HZ9.out.below hb10)
      clear hb10
      go_wp2_with fail
      refine (HGZ.out _ _ HZ10.out (HT.out.later HB10.out)).mono ?_
      rintro e w11 ⟨rfl, hb11⟩
      have HB11 := Lib.hid (step_below HB10.out hb11)
      clear hb11
      have e2 : ((d + f : Nat) : Int) = (d : Int) + (f : Int) := by omega
      rw [e2]
      go_wp2
      go_ret
      exact ⟨rfl, HB11.out⟩
  · have e1 : ((1048576 : Int) < (L : Int)) = True := by simp; omega
    go_enter Tryd.func3, Tryd.ntmps3
    go_wp2
    go_ret
    exact ⟨rfl, Below.refl _ _⟩

end Go.Proofs.YtejbeglchholhaaDoor
