/-
  FnPolyBeside: matching polynomials of graphs beside each other are products.
-/
import Derived.Test.YtejbeglchholhaaDoorDrawBes
import Derived.Test.YtejbeglchholhaaDoorPBesMath
import Derived.Test.YtejbeglchholhaaDoorSpecBes
import Derived.Test.YtejbeglchholhaaDoorImplBesY
import Derived.Test.YtejbeglchholhaaDoorPMatch
import Derived.Test.YtejbeglchholhaaDoorSame
namespace Go.Proofs.YtejbeglchholhaaDoor
set_option linter.unusedVariables false
set_option linter.unusedSimpArgs false
open Go.RowKit

/-- What the law asks of the polynomials of graphs beside each other. -/
theorem pbes_facts {xs ys : List Int} (hok : besOk xs ys = true) (h4 : xs.length ≤ 4) (h5 : ys.length ≤ 5) :
    ∃ E F H : List Int, mpOf xs = E ∧ mpOf ys = F ∧ mpOf (besOf xs ys) = H ∧ timesOk E F = true ∧ okPoly H = true ∧ trim (mulL E F) = H := by
  have hok2 := hok
  unfold besOk at hok2
  simp only [Bool.and_eq_true, decide_eq_true_eq] at hok2
  obtain ⟨⟨hg, hh⟩, h8⟩ := hok2
  obtain ⟨hgz, _, hzl⟩ := bes_in hok
  have sx : 2 ^ xs.length - 1 < 256 := all256 (by omega)
  have sy : 2 ^ ys.length - 1 < 256 := all256 (by omega)
  have sz : 2 ^ (xs.length + ys.length) - 1 < 256 := all256 h8
  have e1 := all_size ⟨xs.length, by omega⟩
  have e2 := all_size ⟨ys.length, by omega⟩
  simp only at e1 e2
  have eR : nums (gfun (besOf xs ys)) (2 ^ (xs.length + ys.length) - 1) = cv (nums (gfun xs) (2 ^ xs.length - 1)) (nums (gfun ys) (2 ^ ys.length - 1)) := funext fun k => bes_gfun hok k
  obtain ⟨x1, x2⟩ := mpL_ok (n := xs.length) (g := nums (gfun xs) (2 ^ xs.length - 1)) (by omega) (fun k => nums_small sx k) (nums_none' sx)
  obtain ⟨y1, y2⟩ := mpL_ok (n := ys.length) (g := nums (gfun ys) (2 ^ ys.length - 1)) (by omega) (fun k => nums_small sy k) (nums_none' sy)
  obtain ⟨z1, z2⟩ := mpL_ok (n := xs.length + ys.length) (g := nums (gfun (besOf xs ys)) (2 ^ (xs.length + ys.length) - 1)) h8 (fun k => nums_small sz k) (nums_none' sz)
  refine ⟨_, _, _, rfl, rfl, rfl, ?_, ?_, ?_⟩
  · unfold mpOf
    rw [if_pos hg, if_pos hh]
    have wx : within 100000 (mpL xs.length (nums (gfun xs) (2 ^ xs.length - 1))) = true := within_of fun i hi => by
      unfold mpL at hi ⊢
      rw [tab_at]
      have := polyAt_small (n := xs.length) (p := i) (b := 59049) (g := nums (gfun xs) (2 ^ xs.length - 1)) (fun k => Nat.le_trans (nums_bound _ 5 _ sx (by omega) k) (by decide))
      omega
    have wy : within 100000 (mpL ys.length (nums (gfun ys) (2 ^ ys.length - 1))) = true := within_of fun i hi => by
      unfold mpL at hi ⊢
      rw [tab_at]
      have := polyAt_small (n := ys.length) (p := i) (b := 59049) (g := nums (gfun ys) (2 ^ ys.length - 1)) (fun k => Nat.le_trans (nums_bound _ 5 _ sy (by omega) k) (by decide))
      omega
    unfold timesOk
    rw [x1, y1, wx, wy]
    have l1 : (mpL xs.length (nums (gfun xs) (2 ^ xs.length - 1))).length = xs.length + 1 := by unfold mpL; rw [tab_len]
    have l2 : (mpL ys.length (nums (gfun ys) (2 ^ ys.length - 1))).length = ys.length + 1 := by unfold mpL; rw [tab_len]
    rw [l1, l2]
    simp
    omega
  · unfold mpOf
    rw [if_pos hgz, hzl]
    exact z1
  · unfold mpOf
    rw [if_pos hg, if_pos hh, if_pos hgz, hzl, ← z2]
    refine trim_ext fun i => ?_
    rw [poly_bes_at (fun k hk => nums_far _ _ _ sx e1 k hk) (fun k hk => nums_far _ _ _ sy e2 k hk), ← eR]
    unfold mpL
    rw [co_tab]

set_option maxRecDepth 100000 in
set_option maxHeartbeats 4000000 in
theorem FnPolyBeside_final (w : World) (A : Option Addr) (L cap : Nat) (hc : L ≤ cap) (hm : L ≤ maxLen) (hx : Code8 w A L) (hT : Tab w) :
    Calls Tryd.prog 4 #[.slice A L cap] w fun e w' => e = .returned (.bool true) ∧ Below w.heap.size w w' := by
  have HD := Lib.hid (DrawGraphBeside_any w A L cap hc hm hx)
  have HT := Lib.hid hT
  unfold maxLen at hm
  clear hx hT
  by_cases hbig : L ≤ 1048576
  · have e1 : ((1048576 : Int) < (L : Int)) = False := by simp; omega
    go_enter Tryd.func4, Tryd.ntmps4
    go_wp2_with fail
    refine HD.out.mono ?_
    rintro e w1 ⟨G, xs, H, ys, rfl, h1, h4, g1, g5, hI, hJ, hb1, hi, hj⟩
    have HI := Lib.hid hi
    have HJ := Lib.hid hj
    have HB1 := Lib.hid hb1
    have HII := Lib.hid hI
    have HJJ := Lib.hid hJ
    clear hI hJ hi hj hb1
    have hS := implBeside_any w1 _ _ xs ys HI.out HJ.out HII.out HJJ.out (HT.out.later HB1.out)
    have HP := Lib.hid (fun W (hW : Ints W (.slice (some ⟨G, 0, none⟩) xs.length xs.length) xs) (hV : Ints W (.slice (some ⟨H, 0, none⟩) ys.length ys.length) ys) => specBeside_any W _ _ xs ys hW hV)
    cases hg : besOk xs ys with
    | false =>
      obtain ⟨zs, hz⟩ : ∃ zs, besOf xs ys = zs := ⟨_, rfl⟩
      rw [hg, hz] at hS HP
      have HS := Lib.hid hS
      clear hS hg hz
      go_wp2_with fail
      refine HS.out.mono ?_
      rintro e w2 ⟨g0, rfl, hb2, ho2⟩
      go_wp2_with fail
      refine (HP.out _ (HI.out.below hb2) (HJ.out.below hb2)).mono ?_
      rintro e w3 ⟨s0, rfl, hb3, ho3⟩
      have HBB := Lib.hid (step_below (step_below HB1.out hb2) hb3)
      have HY1 := Lib.hid ((ints_of_owns ho2).below hb3)
      have HY2 := Lib.hid (ints_of_owns ho3)
      clear hb2 hb3 ho2 ho3
      go_wp2_with fail
      refine (sameInts_same _ _ _ zs HY1.out HY2.out).mono ?_
      rintro e w4 ⟨rfl, q, rfl⟩
      go_wp2_with fail
      refine (sameInts_same _ _ _ zs (HY1.out.drewN q) (HY2.out.drewN q)).mono ?_
      rintro e w5 ⟨rfl, q2, rfl⟩
      go_wp2
      go_ret
      exact ⟨rfl, below_drewN HBB.out _⟩
    | true =>
      have hok2 := hg
      unfold besOk at hok2
      simp only [Bool.and_eq_true, decide_eq_true_eq] at hok2
      obtain ⟨⟨hgx, hgy⟩, h8⟩ := hok2
      obtain ⟨hgz, hzI, hzl⟩ := bes_in hg
      obtain ⟨E, F, H2, hE, hF, hH, t1, t2, t3⟩ := pbes_facts hg h4 g5
      have hAx := fun W (u : Value) (hW : Ints W u xs) (hTW : Tab W) => implPMatch_any W u xs hW HII.out hTW
      have hAy := fun W (u : Value) (hW : Ints W u ys) (hTW : Tab W) => implPMatch_any W u ys hW HJJ.out hTW
      have hAz := fun W (u : Value) (hW : Ints W u (besOf xs ys)) (hTW : Tab W) => implPMatch_any W u _ hW hzI hTW
      have hTM := fun W u z (hu : Ints W u E) (hz : Ints W z F) => implTimes_any W u z E F hu hz
      unfold madeOk madeList toldList at hTM
      rw [t1, t3, t2] at hTM
      simp only [Bool.and_self, if_true] at hTM
      rw [hgx, hE] at hAx
      rw [hgy, hF] at hAy
      rw [hgz, hH] at hAz
      obtain ⟨zs, hz⟩ : ∃ zs, besOf xs ys = zs := ⟨_, rfl⟩
      rw [hg, hz] at hS HP
      rw [hz] at hAz
      have HS := Lib.hid hS
      have HAX := Lib.hid hAx
      have HAY := Lib.hid hAy
      have HAZ := Lib.hid hAz
      have HTM := Lib.hid hTM
      clear hS hg hz hAx hAy hAz hTM hgx hgy hgz hzI hzl hE hF hH t1 t2 t3
      go_wp2_with fail
      refine HS.out.mono ?_
      rintro e w2 ⟨g0, rfl, hb2, ho2⟩
      go_wp2_with fail
      refine (HP.out _ (HI.out.below hb2) (HJ.out.below hb2)).mono ?_
      rintro e w3 ⟨s0, rfl, hb3, ho3⟩
      have HBB := Lib.hid (step_below (step_below HB1.out hb2) hb3)
      have HI3 := Lib.hid ((HI.out.below hb2).below hb3)
      have HJ3 := Lib.hid ((HJ.out.below hb2).below hb3)
      have HY1 := Lib.hid ((ints_of_owns ho2).below hb3)
      have HY2 := Lib.hid (ints_of_owns ho3)
      clear hb2 hb3 ho2 ho3
      go_wp2_with fail
      refine (sameInts_same _ _ _ zs HY1.out HY2.out).mono ?_
      rintro e w4 ⟨rfl, q, rfl⟩
      have HB4 := Lib.hid (below_drewN HBB.out q)
      have HI4 := Lib.hid (HI3.out.drewN q)
      have HJ4 := Lib.hid (HJ3.out.drewN q)
      have HZ4 := Lib.hid (HY1.out.drewN q)
      obtain ⟨w5, hw5⟩ : ∃ w5, w3.drewN q = w5 := ⟨_, rfl⟩
      rw [hw5] at HB4 HI4 HJ4 HZ4
      rw [hw5]
      clear hw5
      go_wp2_with fail
      refine (HAX.out _ _ HI4.out (HT.out.later HB4.out)).mono ?_
      rintro e w6 ⟨a0, rfl, hb6, ho6⟩
      have HB6 := Lib.hid (step_below HB4.out hb6)
      have HJ6 := Lib.hid (HJ4.out.below hb6)
      have HZ6 := Lib.hid (HZ4.out.below hb6)
      have HA6 := Lib.hid (ints_of_owns ho6)
      clear hb6 ho6
      go_wp2_with fail
      refine (HAY.out _ _ HJ6.out (HT.out.later HB6.out)).mono ?_
      rintro e w7 ⟨b0, rfl, hb7, ho7⟩
      have HB7 := Lib.hid (step_below HB6.out hb7)
      have HZ7 := Lib.hid (HZ6.out.below hb7)
      have HA7 := Lib.hid (HA6.out.below hb7)
      have HV7 := Lib.hid (ints_of_owns ho7)
      clear hb7 ho7
      go_wp2_with fail
      refine (HAZ.out _ _ HZ7.out (HT.out.later HB7.out)).mono ?_
      rintro e w8 ⟨c0, rfl, hb8, ho8⟩
      have HB8 := Lib.hid (step_below HB7.out hb8)
      have HA8 := Lib.hid (HA7.out.below hb8)
      have HV8 := Lib.hid (HV7.out.below hb8)
      have HC8 := Lib.hid (ints_of_owns ho8)
      clear hb8 ho8
      go_wp2_with fail
      refine (HTM.out _ _ _ HA8.out HV8.out).mono ?_
      rintro e w9 ⟨d0, rfl, hb9, ho9⟩
      have HB9 := Lib.hid (step_below HB8.out hb9)
      have HC9 := Lib.hid (HC8.out.below hb9)
      have HD9 := Lib.hid (ints_of_owns ho9)
      clear hb9 ho9
      go_wp2_with fail
      refine (sameInts_same _ _ _ H2 HC9.out HD9.out).mono ?_
      rintro e w10 ⟨rfl, q2, rfl⟩
      go_wp2
      go_ret
      exact ⟨rfl, below_drewN HB9.out q2⟩
  · have e1 : ((1048576 : Int) < (L : Int)) = True := by simp; omega
    go_enter Tryd.func4, Tryd.ntmps4
    go_wp2
    go_ret
    exact ⟨rfl, Below.refl _ _⟩

end Go.Proofs.YtejbeglchholhaaDoor
