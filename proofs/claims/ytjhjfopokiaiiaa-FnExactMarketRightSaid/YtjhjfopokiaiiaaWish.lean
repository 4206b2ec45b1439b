/-
  (impl.askers).wish.
-/
import Derived.Test.YtjhjfopokiaiiaaMktFrom
namespace Go.Proofs.Ytjhjfopokiaiiaa
set_option linter.unusedVariables false
set_option linter.unusedSimpArgs false
open Go.RowKit

set_option maxRecDepth 100000 in
set_option maxHeartbeats 1000000 in
theorem wish_q (w : World) (a b : Value) (ys : List (List Int)) (ha : IntRows w a ys) (i j : Nat) (hi : i < ys.length) (hj : j < ys[i].length) (z : Int) (hz : ys[i][j] = z) :
    Calls Try.prog 59 #[.agg (two a b), .int .i64 (i : Int), .int .i64 (j : Int)] w fun e w' => e = .returned (.int .i64 z) ∧ Below w.heap.size w w' := by
  obtain ⟨B, capb, rfl, hmb, hcb⟩ := ha.at
  obtain ⟨b2, o2, u, rfl, hcell20, hu⟩ := hcb i hi
  obtain ⟨A3, cap3, rfl, hm3, hc3⟩ := hu
  obtain ⟨b3, o3, rfl, hcell30⟩ := hc3 j hj
  rw [hz] at hcell30
  obtain ⟨W0, hW0⟩ : ∃ W0, w.alloc (.cells (two (.slice (some ⟨b2, o2, none⟩) ys.length capb) b) 54) = W0 := ⟨_, rfl⟩
  have hb0 : Below w.heap.size w W0 := by rw [← hW0]; exact (Below.refl _ _).alloc (Nat.le_refl _) _
  obtain ⟨x0, x1, xf, _⟩ := two_cells (show W0.heap[w.heap.size]? = some (.cells (two (.slice (some ⟨b2, o2, none⟩) ys.length capb) b) 54 (0, 0)) by rw [← hW0]; exact World.alloc_heap_new _ _)
  have hcell2 := (hb0.cell (p := ⟨b2, o2 + i, none⟩) (World.block_lt_of_cell? w _ hcell20)).trans hcell20
  have hcell3 := (hb0.cell (p := ⟨b3, o3 + j, none⟩) (World.block_lt_of_cell? w _ hcell30)).trans hcell30
  have hii : (i : Int) < (ys.length : Int) := by omega
  have hi0 : (0 : Int) ≤ (i : Int) := by omega
  have hjj : (j : Int) < (ys[i].length : Int) := by omega
  have hj0 : (0 : Int) ≤ (j : Int) := by omega
  have HB0 := Lib.hid hb0
  unfold maxLen at hmb hm3
  clear hcb hc3 hcell20 hcell30 hb0 hz ha
  go_enter Try.func59, Try.ntmps59
  go_wp2
  go_ret
  exact ⟨rfl, HB0.out⟩

end Go.Proofs.Ytjhjfopokiaiiaa
