/-
  spec.l91Twelve: a number from -1 to 13 is drawn.
-/
import Derived.Test.YtcklinoiaiilgabDoorDraw
namespace Go.Proofs.YtcklinoiaiilgabDoor
set_option linter.unusedVariables false
set_option linter.unusedSimpArgs false
open Go.RowKit

set_option maxRecDepth 100000 in
set_option maxHeartbeats 1000000 in
theorem twelve_any (w : World) (A : Option Addr) (L cap : Nat) (hc : L ≤ cap) (hm : L ≤ maxLen) (hx : Code8 w A L) :
    Calls Tryd.prog 61 #[.slice A L cap] w fun e w' => ∃ v : Int, -1 ≤ v ∧ v ≤ 13 ∧ e = .returned (.int .i64 v) ∧ Below w.heap.size w w' := by
  have HO := Lib.hid (open_any w A L cap hc hm)
  have HX := Lib.hid hx
  clear hx hm hc
  go_enter Tryd.func61, Tryd.ntmps61
  go_wp2_with (first
    | (go_at_call 112; refine HO.out.mono ?_; rintro e w1 ⟨r, M, cap', rfl, hM, hML, hrw, hr, hb1⟩; have HP := Lib.hid (pick_any w1 r 0 15 M cap' A hr ((HX.out.less hML).bytes hb1 r hrw) (by omega) hM (by omega) (by omega)); clear hr)
    | (go_at_call 113; refine HP.out.mono ?_; rintro e w2 ⟨v, hv, rfl, hr2, hb2⟩))
  go_ret
  exact ⟨(v : Int) - 1, by omega, by omega, rfl, Below.within hb1 hb2 hrw⟩

end Go.Proofs.YtcklinoiaiilgabDoor
