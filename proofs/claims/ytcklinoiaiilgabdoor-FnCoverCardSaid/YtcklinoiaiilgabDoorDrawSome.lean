/-
  spec.l91Some: a list of numbers is drawn.
-/
import Derived.Test.YtcklinoiaiilgabDoorDrawGraph
namespace Go.Proofs.YtcklinoiaiilgabDoor
set_option linter.unusedVariables false
set_option linter.unusedSimpArgs false
open Go.RowKit

/-- A list that was drawn, and that its call owns. -/
def GivesList (w : World) (most : Nat) (e : Ending) (w' : World) : Prop :=
  ∃ G xs, e = .returned (.slice (some ⟨G, 0, none⟩) xs.length xs.length) ∧ 1 ≤ xs.length ∧ xs.length ≤ most ∧ (∀ x ∈ xs, I64 x) ∧ Below w.heap.size w w' ∧ Ints w' (.slice (some ⟨G, 0, none⟩) xs.length xs.length) xs

theorem ints_vals {w : World} {base : Nat} {v : Value} {xs : List Int} (h : w.ownsRow base 3 1 v xs.length (vals xs)) : Ints w v xs := ints_of_owns h

set_option maxRecDepth 100000 in
set_option maxHeartbeats 1000000 in
theorem some_any (w : World) (A : Option Addr) (L cap : Nat) (hc : L ≤ cap) (hm : L ≤ maxLen) (hx : Code8 w A L) :
    Calls Tryd.prog 83 #[.slice A L cap] w (GivesList w 7) := by
  have HO := Lib.hid (open_any w A L cap hc hm)
  have HX := Lib.hid hx
  clear hx hm hc
  go_enter Tryd.func83, Tryd.ntmps83
  go_wp2_with fail
  refine HO.out.mono ?_
  rintro e w1 ⟨r, M, cap', rfl, hM, hML, hrw, hr, hb1⟩
  have HP := Lib.hid (graph_any w1 r M cap' 0 7 A hr ((HX.out.less hML).bytes hb1 r hrw) hM (Array.getElem?_eq_some_iff.1 hr).1 (by omega) (by omega) (by omega))
  clear hr
  go_wp2_with fail
  refine HP.out.mono ?_
  rintro e w2 ⟨G, xs, p, rfl, h1, h7, hI, hw2, ho2, -, -⟩
  have HI := Lib.hid hI
  have HV := Lib.hid (ints_vals ho2)
  have HB := Lib.hid (Below.within hb1 hw2 hrw)
  clear hI ho2 hw2
  go_wp2
  go_ret
  exact ⟨G, xs, rfl, h1, h7, HI.out, HB.out, HV.out⟩

end Go.Proofs.YtcklinoiaiilgabDoor
