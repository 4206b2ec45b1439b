/-
  FnCover: covers have at least as many nodes as the greatest matching edges.
-/
import Derived.Test.YtcklinoiaiilgabDoorDrawSet
import Derived.Test.YtcklinoiaiilgabDoorCoverMath
import Derived.Test.YtcklinoiaiilgabDoorImplCover
import Derived.Test.YtcklinoiaiilgabDoorImplNums
import Derived.Test.YtcklinoiaiilgabDoorSize
namespace Go.Proofs.YtcklinoiaiilgabDoor
set_option linter.unusedVariables false
set_option linter.unusedSimpArgs false
open Go.RowKit
set_option maxRecDepth 100000

set_option maxHeartbeats 400000 in
theorem DrawCoverIn_set (w : World) (A : Option Addr) (L cap : Nat) (hc : L ≤ cap) (hm : L ≤ maxLen) (hx : Code8 w A L) :
    Calls Tryd.prog 43 #[.slice A L cap] w (GivesSet w 7) := by
  have HO := Lib.hid (set_any w A L cap hc hm hx)
  clear hx hm hc
  go_enter Tryd.func43, Tryd.ntmps43
  go_wp2_with fail
  refine HO.out.mono ?_
  rintro e w1 ⟨G, xs, a, rfl, h1, h7, hI, ha, hb1, hi⟩
  have HH := Lib.hid (And.intro hI (And.intro ha (And.intro hb1 hi)))
  clear hI ha hb1 hi
  go_wp2
  go_ret2
  exact ⟨G, xs, a, rfl, h1, h7, HH.out.1, HH.out.2.1, HH.out.2.2.1, HH.out.2.2.2⟩

set_option maxHeartbeats 4000000 in
theorem FnCover_final (w : World) (A : Option Addr) (L cap : Nat) (hc : L ≤ cap) (hm : L ≤ maxLen) (hx : Code8 w A L) (hT : Tab w) :
    Calls Tryd.prog 10 #[.slice A L cap] w fun e w' => e = .returned (.bool true) ∧ Below w.heap.size w w' := by
  have HD := Lib.hid (DrawCoverIn_set w A L cap hc hm hx)
  have HT := Lib.hid hT
  unfold maxLen at hm
  clear hx hT
  by_cases hbig : L ≤ 1048576
  · have e1 : ((1048576 : Int) < (L : Int)) = False := by simp; omega
    go_enter Tryd.func10, Tryd.ntmps10
    go_wp2_with fail
    refine HD.out.mono ?_
    rintro e w1 ⟨G, xs, a, rfl, h1, h7, hI, ha, hb1, hi⟩
    have HI := Lib.hid hi
    have HB1 := Lib.hid hb1
    have HII := Lib.hid hI
    have hS := implCoverIn_any w1 _ xs a ha hi hI (HT.out.later hb1)
    have HP := Lib.hid (fun W (hW : Ints W (.slice (some ⟨G, 0, none⟩) xs.length xs.length) xs) => specCoverIn_any W _ xs a hW)
    have HA := Lib.hid ha
    clear hI hi hb1 ha
    cases hcv : coverOf xs a with
    | false =>
      rw [hcv] at hS HP
      have HS := Lib.hid hS
      clear hS hcv
      go_wp2_with fail
      refine HS.out.mono ?_
      rintro e w2 ⟨rfl, hb2⟩
      go_wp2_with fail
      refine (HP.out _ (HI.out.below hb2)).mono ?_
      rintro e w3 ⟨rfl, hb3⟩
      go_wp2
      go_ret
      exact ⟨rfl, step_below (step_below HB1.out hb2) hb3⟩
    | true =>
      obtain ⟨s, rfl, hs, hg, hgr, hc1⟩ := cover_facts hcv
      rw [hcv] at hS HP
      have hGk := fun W (hW : Ints W (.slice (some ⟨G, 0, none⟩) xs.length xs.length) xs) (hTW : Tab W) => implGreatest_any W _ xs hW HII.out hTW
      rw [hg, if_pos rfl] at hGk
      obtain ⟨E, hE⟩ : ∃ E, gr (gfun xs) (2 ^ xs.length - 1) = E := ⟨_, rfl⟩
      rw [hE] at hGk hgr
      have hor : bits .or .i64 (s : Int) 1 = ((s ||| 1 : Nat) : Int) := or64 s 1 (by omega) (by decide)
      have hs1 : s ||| 1 < 256 := Nat.or_lt_two_pow (n := 8) hs (by decide)
      obtain ⟨t, ht⟩ : ∃ t, s ||| 1 = t := ⟨_, rfl⟩
      rw [ht] at hor hs1 hc1
      have hC2 := fun W (hW : Ints W (.slice (some ⟨G, 0, none⟩) xs.length xs.length) xs) (hTW : Tab W) => implCoverIn_any W _ xs (t : Int) (by unfold I64; omega) hW HII.out hTW
      rw [hc1] at hC2
      have hSZ := fun W => lawSize_any s hs W
      obtain ⟨z, hz⟩ : ∃ z, (bitsOf s).length = z := ⟨_, rfl⟩
      rw [hz] at hSZ hgr
      have hzE : (E : Int) ≤ (z : Int) := by omega
      have HS := Lib.hid hS
      have HK := Lib.hid hGk
      have HC2 := Lib.hid hC2
      have HSZ := Lib.hid hSZ
      have HOR := Lib.hid hor
      clear hS hcv hg hgr hc1 hGk hE hor ht hC2 hSZ hz
      go_wp2_with fail
      refine HS.out.mono ?_
      rintro e w2 ⟨rfl, hb2⟩
      go_wp2_with fail
      refine (HP.out _ (HI.out.below hb2)).mono ?_
      rintro e w3 ⟨rfl, hb3⟩
      have HBB := Lib.hid (step_below (step_below HB1.out hb2) hb3)
      have HI3 := Lib.hid ((HI.out.below hb2).below hb3)
      clear hb2 hb3
      go_wp2_with fail
      refine (HK.out _ HI3.out (HT.out.later HBB.out)).mono ?_
      rintro e w4 ⟨rfl, hb4⟩
      have HB4 := Lib.hid (step_below HBB.out hb4)
      have HI4 := Lib.hid (HI3.out.below hb4)
      clear hb4
      go_wp2_with fail
      refine (HSZ.out _).mono ?_
      rintro e w5 ⟨rfl, rfl⟩
      have hor := HOR.out
      go_wp2_with fail
      refine (HC2.out _ HI4.out (HT.out.later HB4.out)).mono ?_
      rintro e w6 ⟨rfl, hb6⟩
      go_wp2
      go_ret
      exact ⟨rfl, step_below HB4.out hb6⟩
  · have e1 : ((1048576 : Int) < (L : Int)) = True := by simp; omega
    go_enter Tryd.func10, Tryd.ntmps10
    go_wp2
    go_ret
    exact ⟨rfl, Below.refl _ _⟩

end Go.Proofs.YtcklinoiaiilgabDoor
