/-
  Costs are drawn for FnLeastCost: of at most four rows.
-/
import Derived.Test.YtellghhilcjbnaaDoorDrawQ
namespace Go.Proofs.YtellghhilcjbnaaDoor
set_option linter.unusedVariables false
set_option linter.unusedSimpArgs false
open Go.RowKit
set_option maxRecDepth 100000
def GivesC4L (w : World) (e : Ending) (w' : World) : Prop := ∃ v xss, e = .returned v ∧ IntRows w' v xss ∧ xss.length ≤ 4 ∧ Below w.heap.size w w'
set_option maxHeartbeats 1000000 in
theorem DrawCostLeast4_any (w : World) (A : Option Addr) (L cap : Nat) (hc : L ≤ cap) (hm : L ≤ maxLen) (hx : Code8 w A L) :
    Calls Tryd.prog 19 #[.slice A L cap] w (GivesC4L w) := by
  have HO := Lib.hid (open_any w A L cap hc hm)
  have HX := Lib.hid hx
  clear hx
  go_enter Tryd.func19, Tryd.ntmps19
  go_wp2_with fail
  refine HO.out.mono ?_
  rintro e w1 ⟨r, M, cap', rfl, hM, hML, hrw, hr, hb1⟩
  have HLC := Lib.hid (costs_draw w1 r 0 M cap' A hr ((HX.out.less hML).bytes hb1 r hrw) hM (by omega))
  have HB1 := Lib.hid hb1
  clear hr hb1 hML
  go_wp2_with fail
  refine HLC.out.mono ?_
  rintro e w2 ⟨g, c, us, xss, q, rfl, ho, h1, h4, -, -, hw⟩
  have H4 := Lib.hid h4
  have HF := Lib.hid (And.intro (rows_of_owns ho) (Below.within HB1.out hw hrw))
  clear ho hw
  go_wp2
  go_ret
  exact ⟨_, xss, rfl, HF.out.1, H4.out, HF.out.2⟩

end Go.Proofs.YtellghhilcjbnaaDoor
