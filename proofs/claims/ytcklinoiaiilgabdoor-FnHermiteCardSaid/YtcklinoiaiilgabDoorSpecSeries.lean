/-
  spec.PolyHermite, PolyWay, PolyRing: what they hand back; the laws' walks put together.
-/
import Derived.Test.YtcklinoiaiilgabDoorSpecChain
namespace Go.Proofs.YtcklinoiaiilgabDoor
set_option linter.unusedVariables false
set_option linter.unusedSimpArgs false
open Go.RowKit

theorem gives_no (w : World) : GivesInts w false [] (.returned (.tuple #[.slice (some ⟨w.heap.size, 0, none⟩) 0 0, .bool false])) (w.alloc (.cells #[] 3)) :=
  ⟨_, rfl, (Below.refl _ _).alloc (Nat.le_refl _) _, owns_empty w _ (Nat.le_refl _)⟩

set_option maxHeartbeats 1000000 in
theorem specHerm_yes (n : Nat) (hn : n ≤ 12) (w : World) : Calls Tryd.prog 17 #[.int .i64 (n : Int)] w (GivesInts w true (fullP n)) := by
  have HL := Lib.hid (fun W => l6In_yes (n : Int) 0 12 (by omega) (by omega) W)
  have HC := Lib.hid (fun W => chain_full W n hn)
  go_enter Tryd.func17, Tryd.ntmps17
  go_wp2_with fail
  refine (HL.out _).mono ?_
  rintro e w' ⟨rfl, rfl⟩
  go_wp2_with fail
  refine (HC.out _).mono ?_
  rintro e w1 ⟨g, c, rfl, hb, ho⟩
  go_wp2
  go_ret2
  exact ⟨_, rfl, hb, ho⟩
set_option maxHeartbeats 1000000 in
theorem specHerm_no (n : Int) (h : n < 0 ∨ 12 < n) (w : World) : Calls Tryd.prog 17 #[.int .i64 n] w (GivesInts w false []) := by
  have HL := Lib.hid (fun W => l6In_no n 0 12 h W)
  clear h
  go_enter Tryd.func17, Tryd.ntmps17
  go_wp2_with fail
  refine (HL.out _).mono ?_
  rintro e w' ⟨rfl, rfl⟩
  go_wp2
  go_ret2
  exact gives_no w

set_option maxHeartbeats 1000000 in
theorem specPWay_yes (n : Nat) (hn : n ≤ 12) (w : World) : Calls Tryd.prog 25 #[.int .i64 (n : Int)] w (GivesInts w true (wayP n)) := by
  have HL := Lib.hid (fun W => l6In_yes (n : Int) 0 12 (by omega) (by omega) W)
  have HC := Lib.hid (fun W => chain_way W n hn)
  go_enter Tryd.func25, Tryd.ntmps25
  go_wp2_with fail
  refine (HL.out _).mono ?_
  rintro e w' ⟨rfl, rfl⟩
  go_wp2_with fail
  refine (HC.out _).mono ?_
  rintro e w1 ⟨g, c, rfl, hb, ho⟩
  go_wp2
  go_ret2
  exact ⟨_, rfl, hb, ho⟩
set_option maxHeartbeats 1000000 in
theorem specPWay_no (n : Int) (h : n < 0 ∨ 12 < n) (w : World) : Calls Tryd.prog 25 #[.int .i64 n] w (GivesInts w false []) := by
  have HL := Lib.hid (fun W => l6In_no n 0 12 h W)
  clear h
  go_enter Tryd.func25, Tryd.ntmps25
  go_wp2_with fail
  refine (HL.out _).mono ?_
  rintro e w' ⟨rfl, rfl⟩
  go_wp2
  go_ret2
  exact gives_no w

theorem ring_spec : ∀ n : Fin 13, 3 ≤ n.val → (addL (wayP n.val) (mulL (wayP (n.val - 2)) [-1]) = ringP n.val ∧ (wayP n.val).length ≤ 21 ∧ (wayP (n.val - 2)).length ≤ 21 ∧ (mulL (wayP (n.val - 2)) [-1]).length ≤ 21 ∧ within 1000000000000 (mulL (wayP (n.val - 2)) [-1]) = true) := by decide +kernel
theorem ring_spec' {n : Nat} (h3 : 3 ≤ n) (h : n ≤ 12) : (addL (wayP n) (mulL (wayP (n - 2)) [-1]) = ringP n ∧ (wayP n).length ≤ 21 ∧ (wayP (n - 2)).length ≤ 21 ∧ (mulL (wayP (n - 2)) [-1]).length ≤ 21 ∧ within 1000000000000 (mulL (wayP (n - 2)) [-1]) = true) := ring_spec ⟨n, by omega⟩ h3
set_option maxHeartbeats 2000000 in
theorem specPRing_yes (n : Nat) (h3 : 3 ≤ n) (hn : n ≤ 12) (w : World) : Calls Tryd.prog 29 #[.int .i64 (n : Int)] w (GivesInts w true (ringP n)) := by
  have HL := Lib.hid (fun W => l6In_yes (n : Int) 3 12 (by omega) (by omega) W)
  have HC := Lib.hid (fun W => chain_way W n hn)
  have hc2 := fun W => chain_way W (n - 2) (by omega)
  have e2 : ((n - 2 : Nat) : Int) = (n : Int) - 2 := by omega
  rw [e2] at hc2
  have HC2 := Lib.hid hc2
  obtain ⟨hr, hl1, hl2, hl3, hw3⟩ := ring_spec' h3 hn
  have hw1 := (way_poly' hn).2
  have hw2 := (way_poly' (n := n - 2) (by omega)).2
  have hT := fun W z1 z2 (a : Ints W z1 (wayP (n - 2))) (b : Ints W z2 [-1]) => l3Times_any W z1 z2 (wayP (n - 2)) [-1] a b hl2 (by simp) hw2 (by decide)
  have hA := fun W z1 z2 (a : Ints W z1 (wayP n)) (b : Ints W z2 (mulL (wayP (n - 2)) [-1])) => l2Add_any W z1 z2 (wayP n) (mulL (wayP (n - 2)) [-1]) a b (by omega) (by omega) (within_mono hw1 (by omega)) hw3
  rw [hr] at hA
  have HT := Lib.hid hT
  have HA := Lib.hid hA
  clear hT hA hc2 hr
  clear hl1 hl2 hl3 hw1 hw2 hw3
  go_enter Tryd.func29, Tryd.ntmps29
  go_wp2_with fail
  refine (HL.out _).mono ?_
  rintro e w' ⟨rfl, rfl⟩
  go_wp2_with fail
  refine (HC.out _).mono ?_
  rintro e w1 ⟨g, c, rfl, hb, ho⟩
  have i1 : Ints w1 (.slice (some ⟨g, 0, none⟩) (wayP n).length c) (wayP n) := ints_of_owns ho
  go_wp2_with fail
  refine (HC2.out _).mono ?_
  rintro e w2 ⟨g2, c2, rfl, hb2, ho2⟩
  have i2 : Ints w2 (.slice (some ⟨g2, 0, none⟩) (wayP (n - 2)).length c2) (wayP (n - 2)) := ints_of_owns ho2
  have q4 : Ints (w2.alloc (.cells #[Value.int .i64 (-1)] 3)) (.slice (some ⟨w2.heap.size, 0, none⟩) 1 1) [-1] := by
    have := World.ownsRow_lit (base := w2.heap.size) (e := 3) (size := 1) w2 #[.int .i64 (-1)] 1 (Nat.le_refl _) (by simp [maxLen]) rfl
    exact ints_of_owns this
  have i2' := i2.below (box1_below w2 (.cells #[Value.int .i64 (-1)] 3))
  have i1' := (i1.below hb2).below (box1_below w2 (.cells #[Value.int .i64 (-1)] 3))
  have hb2' := (step_below hb hb2).alloc (step_below hb hb2).size (.cells #[Value.int .i64 (-1)] 3)
  have Q4 := Lib.hid q4
  have I1 := Lib.hid i1'
  have I2 := Lib.hid i2'
  have HB := Lib.hid hb2'
  clear q4 i1 i2 i2' i1' hb2' ho ho2 hb hb2
  go_wp2_with fail
  refine (HT.out _ _ _ I2.out Q4.out).mono ?_
  rintro e w3 ⟨g3, c3, rfl, hb3, ho3⟩
  go_wp2_with fail
  refine (HA.out _ _ _ (I1.out.below hb3) (ints_of_owns ho3)).mono ?_
  rintro e w4 ⟨g4, c4, rfl, hb4, ho4⟩
  have hb3' := step_below HB.out hb3
  have HB4 := Lib.hid (step_below hb3' hb4)
  have HO4 := Lib.hid (owns_mono ho4 hb3'.size)
  clear hb3 hb4 ho3 ho4 hb3'
  go_wp2
  go_ret2
  exact ⟨_, rfl, HB4.out, HO4.out⟩
set_option maxHeartbeats 1000000 in
theorem specPRing_no (n : Int) (h : n < 3 ∨ 12 < n) (w : World) : Calls Tryd.prog 29 #[.int .i64 n] w (GivesInts w false []) := by
  have HL := Lib.hid (fun W => l6In_no n 3 12 h W)
  clear h
  go_enter Tryd.func29, Tryd.ntmps29
  go_wp2_with fail
  refine (HL.out _).mono ?_
  rintro e w' ⟨rfl, rfl⟩
  go_wp2
  go_ret2
  exact gives_no w

end Go.Proofs.YtcklinoiaiilgabDoor
