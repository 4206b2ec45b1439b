/-
  A chooser as a value; what it is made of; what is kept in its map.
-/
import Derived.Test.YtellghhilcjbnaaDoorOnes
import Derived.Test.YtellghhilcjbnaaDoorBest
import Derived.Test.YtellghhilcjbnaaDoorCostAt
import Derived.Test.YtellghhilcjbnaaDoorMarks
import Derived.Test.YtellghhilcjbnaaDoorAllB
import Derived.Test.YtellghhilcjbnaaDoorOnH
import Derived.Test.YtellghhilcjbnaaDoorQOf
import Derived.Maps.OwnOps
import Derived.Maps.OwnSet
import Derived.Maps.OwnIn
import Derived.RangeFuncWrites
import Derived.Deep.RegionHeld3
namespace Go.Proofs.YtellghhilcjbnaaDoor
set_option linter.unusedVariables false
set_option linter.unusedSimpArgs false
open Go.RowKit Go.Shelf
attribute [local go_sem] Oper.semAt_some

set_option maxRecDepth 100000 in
set_option maxHeartbeats 1000000 in
theorem rows_any (w : World) (n : Nat) (F : Nat → Int) : Calls Tryd.prog 91 #[.agg (tcells n F)] w fun e w' => e = .returned (.int .i64 (n : Int)) ∧ Below w.heap.size w w' := by
  obtain ⟨W0, hW0⟩ : ∃ W0, w.alloc (.cells (tcells n F) 49) = W0 := ⟨_, rfl⟩
  have hb0 : Below w.heap.size w W0 := by rw [← hW0]; exact (Below.refl _ _).alloc (Nat.le_refl _) _
  have hg : W0.heap[w.heap.size]? = some (.cells (tcells n F) 49 (0, 0)) := by rw [← hW0]; exact World.alloc_heap_new _ _
  obtain ⟨d0, ds, df, dl⟩ := whole_cells hg
  have HB0 := Lib.hid hb0
  clear hb0 ds df hg
  go_enter Tryd.func91, Tryd.ntmps91
  go_wp2_with (first
    | (refine alloc_whole rfl rfl ?_)
    | (refine store_whole_last rfl _ _ rfl n F _ rfl rfl rfl ?_; rw [hW0]))
  go_ret
  exact ⟨rfl, HB0.out⟩

/-- The cells of a chooser: costs, what no number is, the function, the map. -/
def lcells (n : Nat) (F : Nat → Int) (none : Int) (fn : FuncId) (B : Nat) : Array Value := #[.iface 49 (.agg (tcells n F)), .int .i64 none, .func (.func fn) #[] #[], .map (some B)]

end Go.Proofs.YtellghhilcjbnaaDoor
