/-
  impl.MarketIn.
-/
import Derived.Test.YtahilcnmjnjcaaaDoorSide1
import Derived.Test.YtahilcnmjnjcaaaDoorMktL
namespace Go.Proofs.YtahilcnmjnjcaaaDoor
set_option linter.unusedVariables false
set_option linter.unusedSimpArgs false
open Go.RowKit

set_option maxRecDepth 100000 in
set_option maxHeartbeats 4000000 in
theorem implMIn_any (w : World) (L R : Value) (ls rs : List (List Int)) (hL : IntRows w L ls) (hR : IntRows w R rs) :
    Calls Tryd.prog 20 #[.agg (two L R)] w fun e w' => e = .returned (.bool (mktOk ls rs)) ∧ Below w.heap.size w w' := by
  obtain ⟨W0, hW0⟩ : ∃ W0, w.alloc (.cells (two L R) 28) = W0 := ⟨_, rfl⟩
  have hb0 : Below w.heap.size w W0 := by rw [← hW0]; exact (Below.refl _ _).alloc (Nat.le_refl _) _
  have hbox : W0.heap[w.heap.size]? = some (.cells (two L R) 28 (0, 0)) := by rw [← hW0]; exact World.alloc_heap_new _ _
  have HMF := Lib.hid (mktFrom_any W0 L R ls rs (hL.below hb0) (hR.below hb0))
  have HB0 := Lib.hid hb0
  clear hL hR hb0
  go_enter Tryd.func20, Tryd.ntmps20
  go_wp2_with (refine load_mi rfl _ rfl w.heap.size L R rfl hbox ?_)
  clear hW0
  refine HMF.out.mono ?_
  rintro e w1 ⟨a1, a2, a3, a4, rfl, hb1, ⟨⟨A1, n1, c1, rfl⟩, ⟨A2, n2, c2, rfl⟩, ⟨A3, n3, c3, rfl⟩, ⟨A4, n4, c4, rfl⟩⟩, -⟩
  have hnew := World.alloc_heap_new w1 (.cells (four nilS nilS nilS nilS) 60)
  go_wp2_with (refine store_mkt rfl _ _ rfl w1.heap.size _ _ _ _ rfl rfl nilS nilS nilS nilS rfl rfl rfl rfl hnew ?_)
  go_ret
  exact ⟨rfl, step_below HB0.out (below_setRow2 (hb1.alloc hb1.size _) hb1.size _)⟩

end Go.Proofs.YtahilcnmjnjcaaaDoor
