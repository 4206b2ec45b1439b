/-
  A drawn number of nodes: the reader is opened, one pick.
-/
import Derived.Test.YtfcbhcjgjbcjdacDoorPick
namespace Go.Proofs.YtfcbhcjgjbcjdacDoor
set_option linter.unusedVariables false
set_option linter.unusedSimpArgs false
open Go.RowKit

/-- The drawn bytes, as they come in. -/
def Code8 (w : World) (A : Option Addr) (L : Nat) : Prop :=
  ∀ i, i < L → ∃ b off x, A = some ⟨b, off, none⟩ ∧ w.cell? ⟨b, off + i, none⟩ = some (.int .u8 ((x : Nat) : Int)) ∧ x < 256

theorem Code8.bytes {w w' : World} {A : Option Addr} {L : Nat} (h : Code8 w A L) (hb : Below w.heap.size w w') (r : Nat) (hr : w.heap.size ≤ r) : Bytes w' r A L := fun i hi => by
  obtain ⟨b, off, x, hA, hc, hx⟩ := h i hi
  have hlt : b < w.heap.size := World.block_lt_of_cell? w _ hc
  exact ⟨b, off, x, hA, by omega, (hb.cell (p := ⟨b, off + i, none⟩) hlt).trans hc, hx⟩
theorem Code8.below {w w' : World} {A : Option Addr} {L : Nat} (h : Code8 w A L) (hb : Below w.heap.size w w') : Code8 w' A L := fun i hi => by
  obtain ⟨b, off, x, hA, hc, hx⟩ := h i hi
  exact ⟨b, off, x, hA, (hb.cell (p := ⟨b, off + i, none⟩) (World.block_lt_of_cell? w _ hc)).trans hc, hx⟩
theorem Code8.less {w : World} {A : Option Addr} {L M : Nat} (h : Code8 w A L) (hm : M ≤ L) : Code8 w A M := fun i hi => h i (Nat.lt_of_lt_of_le hi hm)

set_option maxHeartbeats 1000000 in
/-- A reader is opened. -/
theorem open_any (w : World) (A : Option Addr) (L cap : Nat) (hc : L ≤ cap) (hm : L ≤ maxLen) :
    Calls Tryd.prog 38 #[.slice A L cap] w fun e w' => ∃ r M cap', e = .returned (.pointer (some ⟨r, 0, none⟩)) ∧ M ≤ 2000 ∧ M ≤ L ∧ w.heap.size ≤ r ∧ w'.heap[r]? = some (.cells (rcells A M cap' 0) 86 (0, 0)) ∧ Below w.heap.size w w' := by
  unfold maxLen at hm
  by_cases h : L ≤ 2000
  · have e1 : ((2000 : Int) < (L : Int)) = False := by simp; omega
    go_enter Tryd.func38, Tryd.ntmps38
    go_wp2
    go_ret
    exact ⟨w.heap.size, L, cap, rfl, h, Nat.le_refl _, Nat.le_refl _, World.alloc_heap_new _ _, (Below.refl _ _).alloc (Nat.le_refl _) _⟩
  · have e1 : ((2000 : Int) < (L : Int)) = True := by simp; omega
    go_enter Tryd.func38, Tryd.ntmps38
    go_wp2
    go_ret
    exact ⟨w.heap.size, 2000, cap, rfl, Nat.le_refl _, by omega, Nat.le_refl _, World.alloc_heap_new _ _, (Below.refl _ _).alloc (Nat.le_refl _) _⟩


end Go.Proofs.YtfcbhcjgjbcjdacDoor
