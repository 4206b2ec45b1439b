/-
  FnPolyRing: rings have their polynomials.
-/
import Derived.Test.YtcklinoiaiilgabDoorTwelve
import Derived.Test.YtcklinoiaiilgabDoorSame
import Derived.Test.YtcklinoiaiilgabDoorRing
import Derived.Test.YtcklinoiaiilgabDoorSpecSeries
import Derived.Test.YtcklinoiaiilgabDoorPMatch
namespace Go.Proofs.YtcklinoiaiilgabDoor
set_option linter.unusedVariables false
set_option linter.unusedSimpArgs false
open Go.RowKit

set_option maxRecDepth 100000 in
set_option maxHeartbeats 400000 in
theorem drawPRing_any (w : World) (A : Option Addr) (L cap : Nat) (hc : L ≤ cap) (hm : L ≤ maxLen) (hx : Code8 w A L) :
    Calls Tryd.prog 27 #[.slice A L cap] w fun e w' => ∃ v : Int, -1 ≤ v ∧ v ≤ 13 ∧ e = .returned (.int .i64 v) ∧ Below w.heap.size w w' := by
  have HO := Lib.hid (twelve_any w A L cap hc hm hx)
  clear hx hm hc
  go_enter Tryd.func27, Tryd.ntmps27
  go_wp2_with (go_at_call 61; refine HO.out.mono ?_; rintro e w1 ⟨v, hv, hv2, rfl, hb1⟩)
  go_ret
  exact ⟨v, hv, hv2, rfl, hb1⟩

/-- The list of a ring. -/
def ringLits (n : Nat) : List Int := [[], [], [], [6, 5, 3], [10, 5, 10, 5], [18, 5, 10, 20, 9], [34, 5, 10, 20, 40, 17], [66, 5, 10, 20, 40, 80, 33], [130, 5, 10, 20, 40, 80, 160, 65]].getD n []
theorem ring_lits : ∀ n : Fin 9, 3 ≤ n.val → glist n.val (ringOf n.val) = ringLits n.val := by decide +kernel
theorem ring_gin : ∀ n : Fin 9, 3 ≤ n.val → gIn (ringLits n.val) = true ∧ (ringLits n.val).all (fun x => decide (-9223372036854775808 ≤ x ∧ x ≤ 9223372036854775807)) = true := by decide +kernel
theorem ring_mp : ∀ n : Fin 9, 3 ≤ n.val → mpOf (ringLits n.val) = ringP n.val := by decide +kernel
theorem ringP_len : ∀ n : Fin 13, 3 ≤ n.val → (ringP n.val).length = n.val + 1 := by decide +kernel

theorem ring_is {n : Nat} (h3 : 3 ≤ n) (h8 : n ≤ 8) : ∃ xs : List Int, glist n (ringOf n) = xs ∧ gIn xs = true ∧ (∀ x ∈ xs, I64 x) ∧ mpOf xs = ringP n := by
  have e0 := ring_lits ⟨n, by omega⟩ h3
  obtain ⟨g1, g2⟩ := ring_gin ⟨n, by omega⟩ h3
  have e2 := ring_mp ⟨n, by omega⟩ h3
  exact ⟨ringLits n, e0, g1, fun x hx => by simpa [I64] using List.all_eq_true.1 g2 x hx, e2⟩

set_option maxRecDepth 100000 in
set_option maxHeartbeats 2000000 in
theorem FnPolyRing_final (w : World) (A : Option Addr) (L cap : Nat) (hc : L ≤ cap) (hm : L ≤ maxLen) (hx : Code8 w A L) (hT : Tab w) :
    Calls Tryd.prog 5 #[.slice A L cap] w fun e w' => e = .returned (.bool true) ∧ Below w.heap.size w w' := by
  have HD := Lib.hid (drawPRing_any w A L cap hc hm hx)
  have HT := Lib.hid hT
  unfold maxLen at hm
  clear hx hT
  by_cases hbig : L ≤ 1048576
  · have e1 : ((1048576 : Int) < (L : Int)) = False := by simp; omega
    go_enter Tryd.func5, Tryd.ntmps5
    go_wp2_with fail
    refine HD.out.mono ?_
    rintro e w1 ⟨v, hv1, hv2, rfl, hb1⟩
    by_cases h : v < 3 ∨ 12 < v
    · have HR := Lib.hid (fun W => implPRing_no v (by omega) W)
      have HS := Lib.hid (fun W => specPRing_no v (by omega) W)
      clear h
      go_wp2_with fail
      refine (HR.out _).mono ?_
      rintro e w2 ⟨g0, rfl, hb2, ho2⟩
      go_wp2_with fail
      refine (HS.out _).mono ?_
      rintro e w3 ⟨s0, rfl, hb3, ho3⟩
      go_wp2_with fail
      refine (sameInts_same _ _ _ [] ((ints_of_owns ho2).below hb3) (ints_of_owns ho3)).mono ?_
      rintro e w4 ⟨rfl, q, rfl⟩
      go_wp2_with fail
      refine (sameInts_same _ _ _ [] (((ints_of_owns ho2).below hb3).drewN _) ((ints_of_owns ho3).drewN _)).mono ?_
      rintro e w5 ⟨rfl, q2, rfl⟩
      go_wp2
      go_ret
      exact ⟨rfl, below_drewN (step_below (step_below hb1 hb2) hb3) _⟩
    · obtain ⟨n, rfl⟩ : ∃ n : Nat, v = (n : Int) := ⟨v.toNat, by omega⟩
      have hn : n ≤ 12 := by omega
      have h3 : 3 ≤ n := by omega
      have HR := Lib.hid (fun W => implPRing_yes n h3 hn W)
      have HS := Lib.hid (fun W => specPRing_yes n h3 hn W)
      have hlen := ringP_len ⟨n, by omega⟩ h3
      simp only at hlen
      have HLEN := Lib.hid hlen
      clear h hlen
      go_wp2_with fail
      refine (HR.out _).mono ?_
      rintro e w2 ⟨g0, rfl, hb2, ho2⟩
      go_wp2_with fail
      refine (HS.out _).mono ?_
      rintro e w3 ⟨s0, rfl, hb3, ho3⟩
      have hi2 := (ints_of_owns ho2).below hb3
      have hT3 := Lib.hid ((HT.out.later hb1).later hb2 |>.later hb3)
      go_wp2_with fail
      refine (sameInts_same _ _ _ (ringP n) hi2 (ints_of_owns ho3)).mono ?_
      rintro e w4 ⟨rfl, q, rfl⟩
      by_cases hsm : 8 < n
      · have hcs : ((((ringP n).length : Nat) : Int) == (n : Int) + 1) = true := by rw [HLEN.out]; simp
        have hn12 : (n : Int) ≤ 12 := by omega
        have hlen13 : (((ringP n).length : Nat) : Int) ≤ 13 := by rw [HLEN.out]; omega
        have HCS := Lib.hid hcs
        obtain ⟨A2, cap2, rfl, hm2, _⟩ := hi2
        clear hcs hm2
        have s2 : (8 : Int) < (n : Int) := by omega
        clear hsm
        have hcs := HCS.out
        go_wp2
        go_ret
        exact ⟨rfl, below_drewN (step_below (step_below hb1 hb2) hb3) q⟩
      · have hn1 : 1 ≤ n := by omega
        have hn8 : n ≤ 8 := by omega
        have HW := Lib.hid (fun W => ring_yes n h3 hn8 W)
        obtain ⟨xs, hxs, hgi, hI, hmp⟩ := ring_is h3 hn8
        rw [hxs] at HW
        have HX := Lib.hid (And.intro hgi (And.intro hI hmp))
        have hhi : ¬ (8 : Int) < (n : Int) := by omega
        clear hxs hgi hI hmp hsm
        go_wp2_with fail
        refine (HW.out _).mono ?_
        rintro e w5 ⟨c0, rfl, hb5, ho5⟩
        have hP := implPMatch_any w5 c0 xs (ints_of_owns ho5) HX.out.2.1 (Tab.later (W := w3.drewN q) hT3.out hb5)
        rw [HX.out.1, HX.out.2.2] at hP
        have HP := Lib.hid hP
        clear hP
        go_wp2_with fail
        refine HP.out.mono ?_
        rintro e w6 ⟨y0, rfl, hb6, ho6⟩
        go_wp2_with fail
        refine (sameInts_same _ _ _ (ringP n) (ints_of_owns ho6) (((hi2.drewN q).below hb5).below hb6)).mono ?_
        rintro e w8 ⟨rfl, q2, rfl⟩
        go_wp2
        go_ret
        exact ⟨rfl, below_drewN (step_below (step_below (below_drewN (step_below (step_below hb1 hb2) hb3) q) hb5) hb6) q2⟩
  · have e1 : ((1048576 : Int) < (L : Int)) = True := by simp; omega
    go_enter Tryd.func5, Tryd.ntmps5
    go_wp2
    go_ret
    exact ⟨rfl, Below.refl _ _⟩

end Go.Proofs.YtcklinoiaiilgabDoor
