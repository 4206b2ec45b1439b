/-
  spec.DrawGraphWithout: a graph and a node are drawn.
-/
import Derived.Test.YthafhcocgohjaabDoorDrawStood
namespace Go.Proofs.YthafhcocgohjaabDoor
set_option linter.unusedVariables false
set_option linter.unusedSimpArgs false
open Go.RowKit
set_option maxRecDepth 100000

set_option maxHeartbeats 2000000 in
theorem out_drawn (w : World) (A : Option Addr) (L cap : Nat) (hc : L ≤ cap) (hm : L ≤ maxLen) (hx : Code8 w A L) :
    Calls Tryd.prog 32 #[.slice A L cap] w (GivesSet w 7) := by
  have HO := Lib.hid (open_any w A L cap hc hm)
  have HX := Lib.hid hx
  clear hx hm hc
  go_enter Tryd.func32, Tryd.ntmps32
  go_wp2_with fail
  refine HO.out.mono ?_
  rintro e w1 ⟨r, M, cap', rfl, hM, hML, hrw, hr, hb1⟩
  have hrl := (Array.getElem?_eq_some_iff.1 hr).1
  have hxr := (HX.out.less hML).bytes hb1 r hrw
  have HP := Lib.hid (graph_any w1 r M cap' 0 7 A hr hxr hM hrl (by omega) (by omega) (by omega))
  have HXR := Lib.hid hxr
  clear hr hxr
  go_wp2_with fail
  refine HP.out.mono ?_
  rintro e w2 ⟨G, xs, p, rfl, h1, h7, hI, hw2, ho2, hp, hr2⟩
  have HS2 := Lib.hid (show Stood w1 r M cap' G A xs p w2 from ⟨hr2, ho2, hw2⟩)
  have HI := Lib.hid hI
  clear hI ho2 hw2 hr2
  have q0 : p ≤ 100000 := by omega
  have q1 : p + 1 ≤ 100000 := by omega
  have q2 : p + 1 + 1 ≤ 100000 := by omega
  go_wp2_with fail
  refine (stood_pick (m := 24) HS2.out HXR.out hM hrl q0 (by decide) (by decide)).mono ?_
  rintro e w3 ⟨v3, hv3, rfl, hS3⟩
  have HS3 := Lib.hid hS3
  obtain ⟨c, hc1, hc2, hc3⟩ := quo23 hv3
  obtain ⟨N1, hN1⟩ : ∃ N1, xs.length + c = N1 := ⟨_, rfl⟩
  have hN1i : (xs.length : Int) + (c : Int) = (N1 : Int) := by omega
  have hN11 : 1 ≤ N1 := by omega
  have hN12 : N1 ≤ 1000 := by omega
  have hN3 : IntKind.i64.wrap ((xs.length : Int) + (c : Int)) = (N1 : Int) := by rw [hN1i]; exact wraps_i64 _ (by omega) (by omega)
  have hN4 : wrap64 ((xs.length : Int) + (c : Int)) = (N1 : Int) := (wrap_eq _).symm.trans hN3
  clear hS3 hN1 hN1i
  go_wp2_with fail
  with_reducible refine (stood_pick (m := N1) HS3.out HXR.out hM hrl q1 hN11 hN12).mono ?_
  rintro e w5 ⟨v5, hv5, rfl, hS5⟩
  have HS5 := Lib.hid hS5
  clear hS5 hN3 hN4 hc1 hc2 hc3
  go_wp2_with fail
  refine (stood_pick (m := 24) HS5.out HXR.out hM hrl q2 (by decide) (by decide)).mono ?_
  rintro e w6 ⟨v6, hv6, rfl, hS6⟩
  have HS6 := Lib.hid hS6
  obtain ⟨d, hd1, hd2, hd3⟩ := quo23 hv6
  obtain ⟨x, hx1, hx2, hx3⟩ := sub_some v5 d (by omega) hd3
  clear hS6 hd3
  go_wp2
  go_ret2
  exact ⟨G, xs, x, rfl, h1, h7, HI.out, hx3, Below.within hb1 HS6.out.2.2 hrw, ints_vals HS6.out.2.1⟩

end Go.Proofs.YthafhcocgohjaabDoor
