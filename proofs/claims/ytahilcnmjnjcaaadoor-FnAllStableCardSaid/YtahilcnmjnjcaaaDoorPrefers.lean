/-
  (impl.side).prefers, (impl.side).better.
-/
import Derived.Test.YtahilcnmjnjcaaaDoorSide1
namespace Go.Proofs.YtahilcnmjnjcaaaDoor
set_option linter.unusedVariables false
set_option linter.unusedSimpArgs false
open Go.RowKit

set_option maxRecDepth 100000 in
set_option maxHeartbeats 1000000 in
theorem prefers_q (w : World) (a b : Value) (ys : List (List Int)) (hb : IntRows w b ys) (i c1 c2 : Nat) (hi : i < ys.length) (h1 : c1 < ys[i].length) (h2 : c2 < ys[i].length) (r : Bool) (hr : decide (ys[i][c1] < ys[i][c2]) = r) :
    Calls Tryd.prog 79 #[.agg (two a b), .int .i64 (i : Int), .int .i64 (c1 : Int), .int .i64 (c2 : Int)] w fun e w' => e = .returned (.bool r) ∧ Below w.heap.size w w' := by
  obtain ⟨B, capb, rfl, hmb, hcb⟩ := hb.at
  obtain ⟨b2, o2, u, rfl, hcell20, hu⟩ := hcb i hi
  obtain ⟨A3, cap3, rfl, hm3, hc3⟩ := hu
  obtain ⟨b3, o3, rfl, hcell30⟩ := hc3 c1 h1
  obtain ⟨b4, o4, e4, hcell40⟩ := hc3 c2 h2
  obtain ⟨rfl, rfl⟩ : b3 = b4 ∧ o3 = o4 := by simpa using e4
  obtain ⟨z1, hz1⟩ : ∃ z, ys[i][c1] = z := ⟨_, rfl⟩
  obtain ⟨z2, hz2⟩ : ∃ z, ys[i][c2] = z := ⟨_, rfl⟩
  rw [hz1] at hcell30 hr
  rw [hz2] at hcell40 hr
  obtain ⟨W0, hW0⟩ : ∃ W0, w.alloc (.cells (two a (.slice (some ⟨b2, o2, none⟩) ys.length capb)) 55) = W0 := ⟨_, rfl⟩
  have hb0 : Below w.heap.size w W0 := by rw [← hW0]; exact (Below.refl _ _).alloc (Nat.le_refl _) _
  obtain ⟨x0, x1, xf, _⟩ := two_cells (show W0.heap[w.heap.size]? = some (.cells (two a (.slice (some ⟨b2, o2, none⟩) ys.length capb)) 55 (0, 0)) by rw [← hW0]; exact World.alloc_heap_new _ _)
  have hcell2 := (hb0.cell (p := ⟨b2, o2 + i, none⟩) (World.block_lt_of_cell? w _ hcell20)).trans hcell20
  have hcell3 := (hb0.cell (p := ⟨b3, o3 + c1, none⟩) (World.block_lt_of_cell? w _ hcell30)).trans hcell30
  have hcell4 := (hb0.cell (p := ⟨b3, o3 + c2, none⟩) (World.block_lt_of_cell? w _ hcell40)).trans hcell40
  have HB0 := Lib.hid hb0
  have hii : (i : Int) < (ys.length : Int) := by omega
  have h1i : (c1 : Int) < (ys[i].length : Int) := by omega
  have h2i : (c2 : Int) < (ys[i].length : Int) := by omega
  have hi0 : (0 : Int) ≤ (i : Int) := by omega
  have h10 : (0 : Int) ≤ (c1 : Int) := by omega
  have h20 : (0 : Int) ≤ (c2 : Int) := by omega
  unfold maxLen at hmb hm3
  clear hcb hc3 hcell20 hcell30 hcell40 e4 hb0 hz1 hz2
  go_enter Tryd.func79, Tryd.ntmps79
  go_wp2
  clear hW0
  go_quiet (fail)
  go_wp2
  go_ret
  exact ⟨rfl, below_drewN HB0.out _⟩

set_option maxRecDepth 100000 in
set_option maxHeartbeats 1000000 in
theorem better_q (w : World) (a b : Value) (ys : List (List Int)) (hb : IntRows w b ys) (i c1 c2 : Nat) (hi : i < ys.length) (h1 : c1 < ys[i].length) (h2 : c2 < ys[i].length) (z : Int) (hz : (if ys[i][c2] < ys[i][c1] then (c2 : Int) else (c1 : Int)) = z) :
    Calls Tryd.prog 89 #[.agg (two a b), .int .i64 (i : Int), .int .i64 (c1 : Int), .int .i64 (c2 : Int)] w fun e w' => e = .returned (.int .i64 z) ∧ Below w.heap.size w w' := by
  obtain ⟨W0, hW0⟩ : ∃ W0, w.alloc (.cells (two a b) 55) = W0 := ⟨_, rfl⟩
  have hb0 : Below w.heap.size w W0 := by rw [← hW0]; exact (Below.refl _ _).alloc (Nat.le_refl _) _
  have hbox : W0.heap[w.heap.size]? = some (.cells (two a b) 55 (0, 0)) := by rw [← hW0]; exact World.alloc_heap_new _ _
  have HB0 := Lib.hid hb0
  by_cases hlt : ys[i][c2] < ys[i][c1]
  · rw [if_pos hlt] at hz
    subst hz
    have HPF := Lib.hid (prefers_q W0 a b ys (hb.below hb0) i c2 c1 hi h2 h1 true (decide_eq_true hlt))
    clear hb hb0 hlt
    go_enter Tryd.func89, Tryd.ntmps89
    go_wp2_with (refine load_side rfl _ rfl w.heap.size a b rfl hbox ?_)
    clear hW0
    refine HPF.out.mono ?_
    rintro e w1 ⟨rfl, hb1⟩
    go_wp2
    go_ret
    exact ⟨rfl, step_below HB0.out hb1⟩
  · rw [if_neg hlt] at hz
    subst hz
    have HPF := Lib.hid (prefers_q W0 a b ys (hb.below hb0) i c2 c1 hi h2 h1 false (decide_eq_false hlt))
    clear hb hb0 hlt
    go_enter Tryd.func89, Tryd.ntmps89
    go_wp2_with (refine load_side rfl _ rfl w.heap.size a b rfl hbox ?_)
    clear hW0
    refine HPF.out.mono ?_
    rintro e w1 ⟨rfl, hb1⟩
    go_wp2
    go_ret
    exact ⟨rfl, step_below HB0.out hb1⟩

end Go.Proofs.YtahilcnmjnjcaaaDoor
