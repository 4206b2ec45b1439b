/-
  FnCoverEdges: edge covers and matchings are all nodes.
-/
import Derived.Test.YtcklinoiaiilgabDoorDrawSome
import Derived.Test.YtcklinoiaiilgabDoorImplCE
import Derived.Test.YtcklinoiaiilgabDoorSpecCE
import Derived.Test.YtcklinoiaiilgabDoorSpecGreat
namespace Go.Proofs.YtcklinoiaiilgabDoor
set_option linter.unusedVariables false
set_option linter.unusedSimpArgs false
open Go.RowKit

set_option maxRecDepth 100000 in
set_option maxHeartbeats 400000 in
theorem DrawCoverEdges_some (w : World) (A : Option Addr) (L cap : Nat) (hc : L ≤ cap) (hm : L ≤ maxLen) (hx : Code8 w A L) :
    Calls Tryd.prog 51 #[.slice A L cap] w (GivesList w 7) := by
  have HO := Lib.hid (some_any w A L cap hc hm hx)
  clear hx hm hc
  go_enter Tryd.func51, Tryd.ntmps51
  go_wp2_with fail
  refine HO.out.mono ?_
  rintro e w1 ⟨G, xs, rfl, h1, h7, hI, hb1, hi⟩
  have HH := Lib.hid (And.intro hI (And.intro hb1 hi))
  clear hI hb1 hi
  go_wp2
  go_ret
  exact ⟨G, xs, rfl, h1, h7, HH.out.1, HH.out.2.1, HH.out.2.2⟩

set_option maxRecDepth 100000 in
set_option maxHeartbeats 4000000 in
theorem FnCoverEdges_final (w : World) (A : Option Addr) (L cap : Nat) (hc : L ≤ cap) (hm : L ≤ maxLen) (hx : Code8 w A L) (hT : Tab w) :
    Calls Tryd.prog 12 #[.slice A L cap] w fun e w' => e = .returned (.bool true) ∧ Below w.heap.size w w' := by
  have HD := Lib.hid (DrawCoverEdges_some w A L cap hc hm hx)
  have HT := Lib.hid hT
  unfold maxLen at hm
  clear hx hT
  by_cases hbig : L ≤ 1048576
  · have e1 : ((1048576 : Int) < (L : Int)) = False := by simp; omega
    go_enter Tryd.func12, Tryd.ntmps12
    go_wp2_with fail
    refine HD.out.mono ?_
    rintro e w1 ⟨G, xs, rfl, h1, h7, hI, hb1, hi⟩
    have HI := Lib.hid hi
    have HB1 := Lib.hid hb1
    have HII := Lib.hid hI
    clear hI hi hb1
    have hS := implCE_any w1 _ xs HI.out HII.out (HT.out.later HB1.out)
    have HP := Lib.hid (fun W (hW : Ints W (.slice (some ⟨G, 0, none⟩) xs.length xs.length) xs) => specCE_any W _ xs hW)
    cases hok : ceOk xs with
    | false =>
      obtain ⟨r, hr⟩ : ∃ r, ceOf xs = r := ⟨_, rfl⟩
      rw [hok, hr] at hS HP
      have HS := Lib.hid hS
      clear hS hok hr
      go_wp2_with fail
      refine HS.out.mono ?_
      rintro e w2 ⟨rfl, hb2⟩
      go_wp2_with fail
      refine (HP.out _ (HI.out.below hb2)).mono ?_
      rintro e w3 ⟨rfl, hb3⟩
      go_wp2
      go_ret
      exact ⟨rfl, step_below (step_below HB1.out hb2) hb3⟩
    | true =>
      have hg : gIn xs = true := by unfold ceOk at hok; rw [Bool.and_eq_true] at hok; exact hok.1
      have h8 : xs.length ≤ 8 := by omega
      have hv : ceOf xs = ((few (gfun xs) (2 ^ xs.length - 1) : Nat) : Int) := by unfold ceOf; rw [if_pos hok]
      have hfe := few_eq (f := gfun xs) (all256 h8)
      have hsz := all_size ⟨xs.length, by omega⟩
      simp only at hsz
      have hGk := fun W (hW : Ints W (.slice (some ⟨G, 0, none⟩) xs.length xs.length) xs) (hTW : Tab W) => implGreatest_any W _ xs hW HII.out hTW
      rw [hg, if_pos rfl] at hGk
      obtain ⟨E, hE⟩ : ∃ E, gr (gfun xs) (2 ^ xs.length - 1) = E := ⟨_, rfl⟩
      obtain ⟨r, hr⟩ : ∃ r, few (gfun xs) (2 ^ xs.length - 1) = r := ⟨_, rfl⟩
      rw [hE] at hGk hfe
      rw [hr] at hv hfe
      rw [hok, hv] at hS HP
      rw [hsz] at hfe
      have hsum : (E : Int) + (r : Int) = (xs.length : Int) := by omega
      have hE8 : (E : Int) ≤ 8 := by omega
      have hr8 : (r : Int) ≤ 8 := by omega
      have hn8 : (xs.length : Int) ≤ 8 := by omega
      have HS := Lib.hid hS
      have HK := Lib.hid hGk
      have HSUM := Lib.hid hsum
      clear hS hok hg hv hfe hsz hGk hE hr hsum
      go_wp2_with fail
      refine HS.out.mono ?_
      rintro e w2 ⟨rfl, hb2⟩
      go_wp2_with fail
      refine (HP.out _ (HI.out.below hb2)).mono ?_
      rintro e w3 ⟨rfl, hb3⟩
      have HBB := Lib.hid (step_below (step_below HB1.out hb2) hb3)
      have HI3 := Lib.hid ((HI.out.below hb2).below hb3)
      clear hb2 hb3
      go_wp2_with fail
      refine (HK.out _ HI3.out (HT.out.later HBB.out)).mono ?_
      rintro e w4 ⟨rfl, hb4⟩
      have hsum := HSUM.out
      go_wp2
      go_ret
      exact ⟨rfl, step_below HBB.out hb4⟩
  · have e1 : ((1048576 : Int) < (L : Int)) = True := by simp; omega
    go_enter Tryd.func12, Tryd.ntmps12
    go_wp2
    go_ret
    exact ⟨rfl, Below.refl _ _⟩

end Go.Proofs.YtcklinoiaiilgabDoor
