/-
  FnRing: rings are closed ways, and have sides where they are even.
-/
import Derived.Test.YtmjilhddepnekacDoorDraw
import Derived.Test.YtmjilhddepnekacDoorSame
import Derived.Test.YtmjilhddepnekacDoorRing
import Derived.Test.YtmjilhddepnekacDoorWay
import Derived.Test.YtmjilhddepnekacDoorCutGives
import Derived.Test.YtmjilhddepnekacDoorSpecParts
import Derived.Test.YtmjilhddepnekacDoorLeft
namespace Go.Proofs.YtmjilhddepnekacDoor
open Go.RowKit

set_option maxHeartbeats 400000 in
theorem drawRing_any (w : World) (A : Option Addr) (L cap : Nat) (hc : L ≤ cap) (hm : L ≤ maxLen) (hx : Code8 w A L) :
    Calls Tryd.prog 48 #[.slice A L cap] w fun e w' => ∃ v : Nat, v < 10 ∧ e = .returned (.int .i64 v) ∧ Below w.heap.size w w' := by
  have HO := Lib.hid (number_any w A L cap hc hm hx)
  clear hx hm hc
  go_enter Tryd.func48, Tryd.ntmps48
  go_wp2_with (go_at_call 81; refine HO.out.mono ?_; rintro e w1 ⟨v, hv, rfl, hb1⟩)
  go_ret
  exact ⟨v, hv, rfl, hb1⟩

/-- The list of a ring. -/
def ringL (n : Nat) : List Int := glist n (ringOf n)
def ringLits (n : Nat) : List Int := [[], [], [], [6, 5, 3], [10, 5, 10, 5], [18, 5, 10, 20, 9], [34, 5, 10, 20, 40, 17], [66, 5, 10, 20, 40, 80, 33], [130, 5, 10, 20, 40, 80, 160, 65]].getD n []
theorem ring_lits : ∀ n : Fin 9, 3 ≤ n.val → ringL n.val = ringLits n.val := by decide +kernel
theorem ring_facts : ∀ n : Fin 9, 3 ≤ n.val → gIn (ringLits n) = true ∧ edgeB (ringLits n) 0 ((n.val : Int) - 1) = true ∧ cutOf (ringLits n) 0 ((n.val : Int) - 1) = glist n (wayTo (n.val - 1)) ∧ (ringLits n).length = n.val ∧ (ringLits n).all (fun x => decide (-9223372036854775808 ≤ x ∧ x ≤ 9223372036854775807)) = true := by decide +kernel
theorem ring_sides : ∀ n : Fin 9, 3 ≤ n.val → sideOk (ringLits n) = decide (n.val % 2 = 0) := by decide +kernel

theorem ringL_is {n : Nat} (h3 : 3 ≤ n) (h8 : n ≤ 8) : ∃ xs : List Int, glist n (ringOf n) = xs ∧ (gIn xs = true → SymF (gfun xs)) ∧ edgeB xs 0 ((n : Int) - 1) = true ∧ cutOf xs 0 ((n : Int) - 1) = glist n (wayTo (n - 1)) ∧ sideOk xs = decide (n % 2 = 0) ∧ ∀ x ∈ xs, I64 x := by
  have h0 := ring_lits ⟨n, by omega⟩ h3
  obtain ⟨h1, h2, hc, h4, h5⟩ := ring_facts ⟨n, by omega⟩ h3
  refine ⟨ringLits n, h0, fun hg => ?_, h2, hc, ring_sides ⟨n, by omega⟩ h3, fun x hx => by simpa [I64] using List.all_eq_true.1 h5 x hx⟩
  obtain ⟨_, hl8, hok⟩ := gIn_parts hg
  refine symF_of hl8 hok ?_
  unfold gIn at hg
  simp only [Bool.and_eq_true, decide_eq_true_eq] at hg
  exact hg.2.2

theorem tab_below {w w' : World} (hT : Tab w) (hb : Below w.heap.size w w') : Tab w' := hT.later hb

set_option maxHeartbeats 1000000 in
theorem FnRing_final (w : World) (A : Option Addr) (L cap : Nat) (hc : L ≤ cap) (hm : L ≤ maxLen) (hx : Code8 w A L) (hT : Tab w) :
    Calls Tryd.prog 13 #[.slice A L cap] w fun e w' => e = .returned (.bool true) ∧ Below w.heap.size w w' := by
  have HD := Lib.hid (drawRing_any w A L cap hc hm hx)
  have HT := Lib.hid hT
  unfold maxLen at hm
  clear hx hT
  by_cases hbig : L ≤ 1048576
  · have e1 : ((1048576 : Int) < (L : Int)) = False := by simp; omega
    go_enter Tryd.func13, Tryd.ntmps13
    go_wp2_with fail
    refine HD.out.mono ?_
    rintro e w1 ⟨n, hn, rfl, hb1⟩
    have hT1 := Lib.hid (tab_below HT.out hb1)
    by_cases h : n < 3 ∨ 8 < n
    · have HR := Lib.hid (fun W => ring_no (n : Int) (by omega) W)
      have HS := Lib.hid (fun W => specRing_no (n : Int) (by omega) W)
      clear h
      go_wp2_with fail
      refine (HR.out _).mono ?_
      rintro e w2 ⟨g0, rfl, hb2, ho2⟩
      go_wp2_with fail
      refine (HS.out _).mono ?_
      rintro e w3 ⟨s0, rfl, hb3, ho3⟩
      go_wp2_with fail
      refine (sameInts_same _ _ _ [] ((ints_of_owns ho2).below hb3) (ints_of_owns ho3)).mono ?_
      rintro e w4 ⟨rfl, q, rfl⟩
      go_wp2_with fail
      refine (sameInts_same _ _ _ [] (((ints_of_owns ho2).below hb3).drewN _) ((ints_of_owns ho3).drewN _)).mono ?_
      rintro e w5 ⟨rfl, q2, rfl⟩
      go_wp2
      go_ret
      exact ⟨rfl, below_drewN (step_below (step_below hb1 hb2) hb3) _⟩
    · have h3 : 3 ≤ n := by omega
      have h8 : n ≤ 8 := by omega
      have HR := Lib.hid (fun W => ring_yes n h3 h8 W)
      have HS := Lib.hid (fun W => specRing_yes n h3 h8 W)
      have HW := Lib.hid (fun W => way_yes n (by omega) h8 W)
      obtain ⟨xs, hxs, hsy, hed, hcu, hsd, hI⟩ := ringL_is h3 h8
      rw [hxs] at HR HS
      have HX := Lib.hid (And.intro hsy (And.intro hed (And.intro hcu (And.intro hsd hI))))
      clear hxs hsy hed hcu hsd hI h
      go_wp2_with fail
      refine (HR.out _).mono ?_
      rintro e w2 ⟨g0, rfl, hb2, ho2⟩
      go_wp2_with fail
      refine (HS.out _).mono ?_
      rintro e w3 ⟨s0, rfl, hb3, ho3⟩
      have hT3 := Lib.hid (tab_below (tab_below hT1.out hb2) hb3)
      have hi2 := (ints_of_owns ho2).below hb3
      go_wp2_with fail
      refine (sameInts_same _ _ _ xs hi2 (ints_of_owns ho3)).mono ?_
      rintro e w4 ⟨rfl, q, rfl⟩
      have hC := implCut_any (w3.drewN q) g0 xs 0 ((n : Int) - 1) (hi2.drewN q) HX.out.2.2.2.2 hT3.out
      rw [HX.out.2.1, HX.out.2.2.1] at hC
      have HC := Lib.hid hC
      have d1 : IntKind.i64.wrap ((n : Int) - 1) = (n : Int) - 1 := wraps_i64 _ (by omega) (by omega)
      have d2 := (wrap_eq _).symm.trans d1
      clear hC
      go_wp2_with fail
      refine HC.out.mono ?_
      rintro e w5 ⟨c0, rfl, hb5, ho5⟩
      go_wp2_with fail
      refine (HW.out _).mono ?_
      rintro e w6 ⟨y0, rfl, hb6, ho6⟩
      have hi6 := ((hi2.drewN q).below hb5).below hb6
      have hS := implSides_any w6 g0 xs hi6 HX.out.2.2.2.2 (tab_below (tab_below (w := w3.drewN q) hT3.out hb5) hb6) HX.out.1
      have HSD := Lib.hid hS
      clear hS
      go_wp2_with fail
      refine HSD.out.mono ?_
      rintro e w7 ⟨rfl, hb7⟩
      go_wp2_with fail
      refine (sameInts_same _ _ _ (glist n (wayTo (n - 1))) (((ints_of_owns ho5).below hb6).below hb7) ((ints_of_owns ho6).below hb7)).mono ?_
      rintro e w8 ⟨rfl, q2, rfl⟩
      have hsd := HX.out.2.2.2.1
      go_wp2
      have hpar : (decide (n % 2 = 0) == ((n : Int) % 2 == 0)) = true := by
        have : ((n : Int) % 2 == 0) = decide (n % 2 = 0) := by rw [Bool.eq_iff_iff, beq_iff_eq, decide_eq_true_iff]; omega
        rw [this, beq_self_eq_true]
      go_ret
      refine ⟨ret_bool hpar, below_drewN (step_below (step_below (step_below (below_drewN (step_below (step_below hb1 hb2) hb3) q) hb5) hb6) hb7) q2⟩
  · have e1 : ((1048576 : Int) < (L : Int)) = True := by simp; omega
    go_enter Tryd.func13, Tryd.ntmps13
    go_wp2
    go_ret
    exact ⟨rfl, Below.refl _ _⟩

end Go.Proofs.YtmjilhddepnekacDoor
