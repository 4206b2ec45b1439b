/-
  impl.costAt of whole costs.
-/
import Derived.Test.YtellghhilcjbnaaDoorTabs
import Derived.Test.YtellghhilcjbnaaDoorCore1
namespace Go.Proofs.YtellghhilcjbnaaDoor
set_option linter.unusedVariables false
set_option linter.unusedSimpArgs false
open Go.RowKit

theorem assert_whole (n : Nat) (F : Nat → Int) (W : World) : (Instr.typeAssert (.iface 49 (.agg (tcells n F))) 55 49 true).run Tryd.prog W = .ok (.tuple #[.agg (tcells n F), .bool true]) W := by kernel_rfl

set_option maxRecDepth 100000 in
set_option maxHeartbeats 1000000 in
theorem costAt_any (w : World) (n : Nat) (F : Nat → Int) (r c : Nat) (hr : r < 6) (hc : c < 6) (z : Int) (hz : F (6 * r + c) = z) :
    Calls Tryd.prog 48 #[.iface 49 (.agg (tcells n F)), .int .i64 (r : Int), .int .i64 (c : Int)] w fun e w' => e = .returned (.int .i64 z) ∧ Below w.heap.size w w' := by
  obtain ⟨W0, hW0⟩ : ∃ W0, w.alloc (.cells (tcells n F) 49) = W0 := ⟨_, rfl⟩
  have hb0 : Below w.heap.size w W0 := by rw [← hW0]; exact (Below.refl _ _).alloc (Nat.le_refl _) _
  have hg : W0.heap[w.heap.size]? = some (.cells (tcells n F) 49 (0, 0)) := by rw [← hW0]; exact World.alloc_heap_new _ _
  obtain ⟨d0, ds, df, dl⟩ := whole_cells hg
  have ck := ds (6 * r + c) (by omega)
  rw [hz, show 1 + (6 * r + c) = 1 + r * 6 + c by omega] at ck
  have HB0 := Lib.hid hb0
  have hta := fun W => assert_whole n F W
  have r6 : (r : Int) < 6 := by omega
  have c6 : (c : Int) < 6 := by omega
  clear hb0 ds df d0 hz hg
  go_enter Tryd.func48, Tryd.ntmps48
  go_wp2_with (first
    | (refine alloc_whole rfl rfl ?_)
    | (refine store_whole_last rfl _ _ rfl n F _ rfl rfl rfl ?_; rw [hW0]))
  go_ret
  exact ⟨rfl, HB0.out⟩

end Go.Proofs.YtellghhilcjbnaaDoor
