/-
  (impl.keepers).answer.
-/
import Derived.Test.YtjhjfopokiaiiaaPrefers
namespace Go.Proofs.Ytjhjfopokiaiiaa
set_option linter.unusedVariables false
set_option linter.unusedSimpArgs false
open Go.RowKit

set_option maxRecDepth 100000 in
set_option maxHeartbeats 1000000 in
theorem answer_none (w : World) (a b : Value) (i : Int) (k : Nat) :
    Calls Try.prog 60 #[.agg (two a b), .int .i64 (k : Int), .int .i64 i, .int .i64 (-1)] w fun e w' => e = .returned (.int .i64 i) ∧ Below w.heap.size w w' := by
  go_enter Try.func60, Try.ntmps60
  go_wp2
  go_ret
  exact ⟨rfl, (Below.refl _ _).alloc (Nat.le_refl _) _⟩

set_option maxRecDepth 100000 in
set_option maxHeartbeats 1000000 in
theorem answer_some (w : World) (a b : Value) (ys : List (List Int)) (hb : IntRows w b ys) (k i h : Nat) (hk : k < ys.length) (h1 : i < ys[k].length) (h2 : h < ys[k].length) (z : Int) (hz : (if ys[k][h] < ys[k][i] then (h : Int) else (i : Int)) = z) :
    Calls Try.prog 60 #[.agg (two a b), .int .i64 (k : Int), .int .i64 (i : Int), .int .i64 (h : Int)] w fun e w' => e = .returned (.int .i64 z) ∧ Below w.heap.size w w' := by
  obtain ⟨W0, hW0⟩ : ∃ W0, w.alloc (.cells (two a b) 55) = W0 := ⟨_, rfl⟩
  have hb0 : Below w.heap.size w W0 := by rw [← hW0]; exact (Below.refl _ _).alloc (Nat.le_refl _) _
  obtain ⟨x0, x1, xf, _⟩ := two_cells (show W0.heap[w.heap.size]? = some (.cells (two a b) 55 (0, 0)) by rw [← hW0]; exact World.alloc_heap_new _ _)
  have HBT := Lib.hid (better_q W0 a b ys (hb.below hb0) k i h hk h1 h2 z hz)
  have HB0 := Lib.hid hb0
  have hne : ((h : Int) == -1) = false := by simp
  clear hb hb0 hz h1 h2 hk
  go_enter Try.func60, Try.ntmps60
  go_wp2_with (go_at_call 69; refine HBT.out.mono ?_; rintro e w1 ⟨rfl, hb1⟩)
  go_ret
  exact ⟨rfl, step_below HB0.out hb1⟩

end Go.Proofs.Ytjhjfopokiaiiaa
