/-
  FnGreatest: a node fewer takes away one edge at most.
-/
import Derived.Test.YtcklinoiaiilgabDoorDrawSome
import Derived.Test.YtcklinoiaiilgabDoorRelabel
import Derived.Test.YtcklinoiaiilgabDoorSpecGreat
import Derived.Test.YtcklinoiaiilgabDoorMPoly
import Derived.Test.YtcklinoiaiilgabDoorCritB
namespace Go.Proofs.YtcklinoiaiilgabDoor
set_option linter.unusedVariables false
set_option linter.unusedSimpArgs false
open Go.RowKit

set_option maxRecDepth 100000 in
set_option maxHeartbeats 400000 in
theorem DrawMatchGreatest_some (w : World) (A : Option Addr) (L cap : Nat) (hc : L ≤ cap) (hm : L ≤ maxLen) (hx : Code8 w A L) :
    Calls Tryd.prog 54 #[.slice A L cap] w (GivesList w 7) := by
  have HO := Lib.hid (some_any w A L cap hc hm hx)
  clear hx hm hc
  go_enter Tryd.func54, Tryd.ntmps54
  go_wp2_with fail
  refine HO.out.mono ?_
  rintro e w1 ⟨G, xs, rfl, h1, h7, hI, hb1, hi⟩
  have HH := Lib.hid (And.intro hI (And.intro hb1 hi))
  clear hI hb1 hi
  go_wp2
  go_ret
  exact ⟨G, xs, rfl, h1, h7, HH.out.1, HH.out.2.1, HH.out.2.2⟩

set_option maxRecDepth 100000 in
set_option maxHeartbeats 4000000 in
theorem FnGreatest_final (w : World) (A : Option Addr) (L cap : Nat) (hc : L ≤ cap) (hm : L ≤ maxLen) (hx : Code8 w A L) (hT : Tab w) :
    Calls Tryd.prog 13 #[.slice A L cap] w fun e w' => e = .returned (.bool true) ∧ Below w.heap.size w w' := by
  have HD := Lib.hid (DrawMatchGreatest_some w A L cap hc hm hx)
  have HT := Lib.hid hT
  unfold maxLen at hm
  clear hx hT
  by_cases hbig : L ≤ 1048576
  · have e1 : ((1048576 : Int) < (L : Int)) = False := by simp; omega
    go_enter Tryd.func13, Tryd.ntmps13
    go_wp2_with fail
    refine HD.out.mono ?_
    rintro e w1 ⟨G, xs, rfl, h1, h7, hI, hb1, hi⟩
    have HI := Lib.hid hi
    have HB1 := Lib.hid hb1
    have HII := Lib.hid hI
    clear hI hi hb1
    have hS := implGreatest_any w1 _ xs HI.out HII.out (HT.out.later HB1.out)
    have HP := Lib.hid (fun W (hW : Ints W (.slice (some ⟨G, 0, none⟩) xs.length xs.length) xs) => specGreatest_any W _ xs hW)
    cases hg : gIn xs with
    | false =>
      rw [hg, if_neg (by simp)] at hS HP
      have HS := Lib.hid hS
      clear hS hg
      go_wp2_with fail
      refine HS.out.mono ?_
      rintro e w2 ⟨rfl, hb2⟩
      go_wp2_with fail
      refine (HP.out _ (HI.out.below hb2)).mono ?_
      rintro e w3 ⟨rfl, hb3⟩
      go_wp2
      go_ret
      exact ⟨rfl, step_below (step_below HB1.out hb2) hb3⟩
    | true =>
      obtain ⟨_, h8, hoko⟩ := gIn_parts hg
      rw [hg, if_pos rfl] at hS HP
      have hhalf := gr_all h8 (gfun xs)
      obtain ⟨E, hE⟩ : ∃ E, gr (gfun xs) (2 ^ xs.length - 1) = E := ⟨_, rfl⟩
      have HE := Lib.hid hE
      rw [hE] at hS HP hhalf
      have HS := Lib.hid hS
      have HG := Lib.hid hg
      obtain ⟨D, hD⟩ : ∃ D, 2 * E = D := ⟨_, rfl⟩
      have hDi : 2 * (E : Int) = (D : Int) := by omega
      have hDn : (D : Int) ≤ (xs.length : Int) := by omega
      have hD8 : (D : Int) ≤ 8 := by omega
      have hE8 : (E : Int) ≤ 4 := by omega
      clear hS hg hoko hE hD
      go_wp2_with fail
      refine HS.out.mono ?_
      rintro e w2 ⟨rfl, hb2⟩
      go_wp2_with fail
      refine (HP.out _ (HI.out.below hb2)).mono ?_
      rintro e w3 ⟨rfl, hb3⟩
      have HBB := Lib.hid (step_below (step_below HB1.out hb2) hb3)
      have HI3 := Lib.hid ((HI.out.below hb2).below hb3)
      clear hb2 hb3
      by_cases h2 : xs.length < 2
      · have hE0 : E = 0 := by omega
        have h2i : (xs.length : Int) < 2 := by omega
        subst hE0
        clear h2
        go_wp2
        go_ret
        exact ⟨rfl, HBB.out⟩
      · obtain ⟨ho, hol, hog, hoI, hon⟩ := out_facts (v := 0) HG.out (by omega) (by omega)
        have h2i : ¬ (xs.length : Int) < 2 := by omega
        have hW := implWithout_any w3 _ xs ((0 : Nat) : Int) HI3.out HII.out (HT.out.later HBB.out)
        obtain ⟨ys, hy⟩ : ∃ ys, outOf xs ((0 : Nat) : Int) = ys := ⟨_, rfl⟩
        rw [ho, hy] at hW
        rw [hy] at hol hog hoI hon
        have hgk : gr (gfun ys) (2 ^ ys.length - 1) = gr (gfun xs) (wo (2 ^ xs.length - 1) 0) := by rw [hol]; exact gr_of_nums hon
        have hm := gr_mono (gIn_sym HG.out) (wo_256 (v := 0) (all256 h8)) (all256 h8) (sub8_wo (2 ^ xs.length - 1) 0)
        have hw : gr (gfun xs) (2 ^ xs.length - 1) ≤ gr (gfun xs) (wo (2 ^ xs.length - 1) 0) + 1 := gr_without (gIn_sym HG.out) (all256 h8) 0 (all_bit h8 (by show 0 < xs.length; omega))
        rw [HE.out] at hm hw
        have hGk := fun W (u : Value) (hW : Ints W u ys) (hTW : Tab W) => implGreatest_any W u ys hW hoI hTW
        rw [hog, if_pos rfl, hgk] at hGk
        obtain ⟨K, hK⟩ : ∃ K, gr (gfun xs) (wo (2 ^ xs.length - 1) 0) = K := ⟨_, rfl⟩
        rw [hK] at hGk hm hw
        have HW := Lib.hid hW
        have HK := Lib.hid hGk
        have hKE : K = E ∨ K + 1 = E := by omega
        clear h2 ho hol hog hoI hon hW hy hgk hm hw hGk hK
        go_wp2_with fail
        refine HW.out.mono ?_
        rintro e w4 ⟨y0, rfl, hb4, ho4⟩
        have HY := Lib.hid (ints_of_owns ho4)
        have HB4 := Lib.hid (step_below HBB.out hb4)
        clear hb4 ho4
        go_wp2_with fail
        refine (HK.out _ _ HY.out (HT.out.later HB4.out)).mono ?_
        rintro e w5 ⟨rfl, hb5⟩
        rcases hKE with rfl | rfl
        · have e2 : ((K : Int) == (K : Int)) = true := beq_self_eq_true _
          go_wp2
          go_ret
          exact ⟨rfl, step_below HB4.out hb5⟩
        · have e2 : ((K : Int) == ((K + 1 : Nat) : Int)) = false := by rw [beq_eq_false_iff_ne]; omega
          have e3 : ((K + 1 : Nat) : Int) - 1 = (K : Int) := by omega
          have hK4 : (K : Int) ≤ 4 := by omega
          go_wp2
          go_ret
          exact ⟨rfl, step_below HB4.out hb5⟩
  · have e1 : ((1048576 : Int) < (L : Int)) = True := by simp; omega
    go_enter Tryd.func13, Tryd.ntmps13
    go_wp2
    go_ret
    exact ⟨rfl, Below.refl _ _⟩

end Go.Proofs.YtcklinoiaiilgabDoor
