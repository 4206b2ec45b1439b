/-
  (graph).other: the graph of the others.
-/
import Derived.Test.YtnmemefkeehjjabDoorCore2
import Derived.Deep.RegionLaw
namespace Go.Proofs.YtnmemefkeehjjabDoor
set_option linter.unusedVariables false
set_option linter.unusedSimpArgs false
open Go.RowKit

/-- The neighbours that are none. -/
def othOf (n : Nat) (f : Nat → Nat) : Nat → Nat := fun i => if i < n then ((2 ^ n - 1) &&& (255 - 2 ^ i)) &&& (255 - f i) else f i

theorem oth_step (n : Nat) (f : Nat → Nat) (k : Nat) : upd (fun i => if i < k then othOf n f i else f i) k (othOf n f k) = fun i => if i < k + 1 then othOf n f i else f i := by
  funext i
  unfold upd
  by_cases h : i = k
  · subst h; simp
  · by_cases h2 : i < k
    · have : i < k + 1 := by omega
      simp [h, h2, this]
    · have : ¬ i < k + 1 := by omega
      simp [h, h2, this]

theorem oth_done (n : Nat) (f : Nat → Nat) : gcells n (fun i => if i < n then othOf n f i else f i) = gcells n (othOf n f) := by
  apply gcells_congr
  intro i _
  unfold othOf
  by_cases h : i < n <;> simp [h]

end Go.Proofs.YtnmemefkeehjjabDoor
