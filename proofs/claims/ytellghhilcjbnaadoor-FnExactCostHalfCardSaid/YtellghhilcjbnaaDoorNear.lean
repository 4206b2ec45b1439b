/-
  (graph).areNeighbours.
-/
import Derived.Test.YtellghhilcjbnaaDoorCutEdge
namespace Go.Proofs.YtellghhilcjbnaaDoor
set_option linter.unusedVariables false
set_option linter.unusedSimpArgs false
open Go.RowKit

/-- Whether two numbers are nodes and neighbours. -/
def nearB (n : Nat) (f : Nat → Nat) (a b : Int) : Bool := decide (0 ≤ a ∧ a < (n : Int)) && (decide (0 ≤ b ∧ b < (n : Int)) && (f a.toNat).testBit b.toNat)

set_option maxHeartbeats 1000000 in
theorem near_any (n : Nat) (f : Nat → Nat) (a b : Int) (h8 : n ≤ 8) (hf : ∀ i, f i < 256) (w : World) :
    Calls Tryd.prog 61 #[.agg (gcells n f), .int .i64 a, .int .i64 b] w fun e w' => e = .returned (.bool (nearB n f a b)) ∧ Below w.heap.size w w' := by
  have hg := World.alloc_heap_new w (.cells (gcells n f) 78)
  have hB : Below w.heap.size w (w.alloc (.cells (gcells n f) 78)) := (Below.refl _ _).alloc (Nat.le_refl _) _
  obtain ⟨c0, cs, _, _⟩ := graph_cells hg
  have c1 := cs 0 (by decide)
  have c2 := cs 1 (by decide)
  have c3 := cs 2 (by decide)
  have c4 := cs 3 (by decide)
  have c5 := cs 4 (by decide)
  have c6 := cs 5 (by decide)
  have c7 := cs 6 (by decide)
  have c8 := cs 7 (by decide)
  by_cases ha : 0 ≤ a ∧ a < (n : Int)
  · obtain ⟨i, rfl⟩ : ∃ i : Nat, a = (i : Int) := ⟨a.toNat, by omega⟩
    by_cases hb : 0 ≤ b ∧ b < (n : Int)
    · obtain ⟨j, rfl⟩ : ∃ j : Nat, b = (j : Int) := ⟨b.toNat, by omega⟩
      have hno : nearB n f (i : Int) (j : Int) = (f i).testBit j := by unfold nearB; rw [decide_eq_true ha, decide_eq_true hb]; simp
      rw [hno]
      have hA := hasNode_any n f (i : Int)
      rw [decide_eq_true ha] at hA
      have hB2 := hasNode_any n f (j : Int)
      rw [decide_eq_true hb] at hB2
      have HA := Lib.hid hA
      have HB := Lib.hid hB2
      have HF := Lib.hid hf
      have hi8 : i < 8 := by omega
      have hj8 : j < 8 := by omega
      clear hA hB2 hno cs hf ha hb h8
      go_enter Tryd.func61, Tryd.ntmps61
      go_wp2_with fail
      refine (HA.out _).mono ?_
      rintro e w2 ⟨rfl, hb2⟩
      have hg2 := (hb2.block w.heap.size (by simp)).trans hg
      obtain ⟨d0, ds, _, _⟩ := graph_cells hg2
      have d1 := ds 0 (by decide)
      have d2 := ds 1 (by decide)
      have d3 := ds 2 (by decide)
      have d4 := ds 3 (by decide)
      have d5 := ds 4 (by decide)
      have d6 := ds 5 (by decide)
      have d7 := ds 6 (by decide)
      have d8 := ds 7 (by decide)
      have HG2 := Lib.hid hg2
      have HB2 := Lib.hid hb2
      clear ds hg hg2 c0 c1 c2 c3 c4 c5 c6 c7 c8 hb2
      go_wp2_with fail
      refine (HB.out _).mono ?_
      rintro e w3 ⟨rfl, hb3⟩
      have hg3 := (hb3.block w.heap.size (by have := HB2.out.size; simp at this; omega)).trans HG2.out
      obtain ⟨_, es, _, _⟩ := graph_cells hg3
      have ei := es i hi8
      have hi8' : (i : Int) < 8 := by omega
      have hh := fun W => has_any (f i) j (HF.out i) hj8 W
      have HH := Lib.hid hh
      have HB3 := Lib.hid hb3
      clear es hg3 d0 d1 d2 d3 d4 d5 d6 d7 d8 hh hb3
      go_wp2_with (go_at_call 56; refine (HH.out _).mono ?_; rintro e w4 ⟨rfl, rfl⟩)
      go_ret
      exact ⟨rfl, step_below (hB.trans (HB2.out.mono (by simp))) HB3.out⟩
    · have hno : nearB n f (i : Int) b = false := by unfold nearB; rw [decide_eq_false hb]; simp
      rw [hno]
      have hA := hasNode_any n f (i : Int)
      rw [decide_eq_true ha] at hA
      have hB2 := hasNode_any n f b
      rw [decide_eq_false hb] at hB2
      have HA := Lib.hid hA
      have HB := Lib.hid hB2
      clear hA hB2 hno cs hf ha hb h8
      go_enter Tryd.func61, Tryd.ntmps61
      go_wp2_with fail
      refine (HA.out _).mono ?_
      rintro e w2 ⟨rfl, hb2⟩
      have hg2 := (hb2.block w.heap.size (by simp)).trans hg
      obtain ⟨d0, ds, _, _⟩ := graph_cells hg2
      have d1 := ds 0 (by decide)
      have d2 := ds 1 (by decide)
      have d3 := ds 2 (by decide)
      have d4 := ds 3 (by decide)
      have d5 := ds 4 (by decide)
      have d6 := ds 5 (by decide)
      have d7 := ds 6 (by decide)
      have d8 := ds 7 (by decide)
      have HB2 := Lib.hid hb2
      clear ds hg hg2 c0 c1 c2 c3 c4 c5 c6 c7 c8 hb2
      go_wp2_with fail
      refine (HB.out _).mono ?_
      rintro e w3 ⟨rfl, hb3⟩
      have HB3 := Lib.hid hb3
      clear d0 d1 d2 d3 d4 d5 d6 d7 d8 hb3
      go_wp2
      go_ret
      exact ⟨rfl, step_below (hB.trans (HB2.out.mono (by simp))) HB3.out⟩
  · have hno : nearB n f a b = false := by unfold nearB; rw [decide_eq_false ha]; rfl
    rw [hno]
    have hh := hasNode_any n f a
    rw [decide_eq_false ha] at hh
    have HH := Lib.hid hh
    clear hh hno cs hf ha
    go_enter Tryd.func61, Tryd.ntmps61
    go_wp2_with (go_at_call 68; refine (HH.out _).mono ?_; rintro e w2 ⟨rfl, hb2⟩)
    go_ret
    exact ⟨rfl, hB.trans (hb2.mono (by simp))⟩

end Go.Proofs.YtellghhilcjbnaaDoor
