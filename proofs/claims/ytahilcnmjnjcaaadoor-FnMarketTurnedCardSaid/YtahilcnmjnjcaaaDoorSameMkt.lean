/-
  laws.sameMarket of equal markets.
-/
import Derived.Test.YtahilcnmjnjcaaaDoorCore1
import Derived.Test.YtahilcnmjnjcaaaDoorMktL
namespace Go.Proofs.YtahilcnmjnjcaaaDoor
set_option linter.unusedVariables false
set_option linter.unusedSimpArgs false
open Go.RowKit

set_option maxRecDepth 100000 in
theorem sameMkt_same (w : World) (L R L' R' : Value) (ls rs : List (List Int)) (h1 : IntRows w L ls) (h2 : IntRows w R rs) (h3 : IntRows w L' ls) (h4 : IntRows w R' rs) :
    Calls Tryd.prog 30 #[.agg (two L R), .agg (two L' R')] w fun e w' => e = .returned (.bool true) ∧ Below w.heap.size w w' := by
  obtain ⟨W0, hW0⟩ : ∃ W0, (w.alloc (.cells (two L R) 28)).alloc (.cells (two L' R') 28) = W0 := ⟨_, rfl⟩
  have hb0 : Below w.heap.size w W0 := by rw [← hW0]; exact ((Below.refl _ _).alloc (Nat.le_refl _) _).alloc (by simp) _
  have hx0 : W0.heap[w.heap.size]? = some (.cells (two L R) 28 (0, 0)) := by rw [← hW0]; exact heap_two_old _ _ _
  have hx1 : W0.heap[w.heap.size + 1]? = some (.cells (two L' R') 28 (0, 0)) := by rw [← hW0]; exact heap_two_new _ _ _
  obtain ⟨c0, c1, _, _⟩ := two_cells hx0
  obtain ⟨d0, d1, _, _⟩ := two_cells hx1
  have HA := Lib.hid (sameRows_same W0 L L' ls (h1.below hb0) (h3.below hb0))
  have HB := Lib.hid (fun q => sameRows_same (W0.drewN q) R R' rs ((h2.below hb0).drewN q) ((h4.below hb0).drewN q))
  have HF := Lib.hid hb0
  clear h1 h2 h3 h4 hb0 hx0 hx1
  go_enter Tryd.func30, Tryd.ntmps30
  go_wp2_with fail
  refine HA.out.mono ?_
  rintro e w1 ⟨rfl, q1, rfl⟩
  have c1' : (W0.drewN q1).cell? ⟨w.heap.size, 1, none⟩ = some R := c1
  have d1' : (W0.drewN q1).cell? ⟨w.heap.size + 1, 1, none⟩ = some R' := d1
  clear c0 c1 d0 d1 hW0
  go_wp2_with fail
  refine (HB.out q1).mono ?_
  rintro e w2 ⟨rfl, q2, rfl⟩
  clear c1' d1'
  go_wp2
  go_ret
  exact ⟨rfl, below_drewN HF.out (q1 + q2)⟩

end Go.Proofs.YtahilcnmjnjcaaaDoor
