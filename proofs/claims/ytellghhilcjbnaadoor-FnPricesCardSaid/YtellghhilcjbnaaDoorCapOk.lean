/-
  A slice has room for its elements.
-/
import Derived.Test.YtellghhilcjbnaaDoorCore1
namespace Go.Proofs.YtellghhilcjbnaaDoor
set_option linter.unusedVariables false
set_option linter.unusedSimpArgs false
open Go.RowKit

def CapOk (v : Value) (n : Nat) : Prop := ∀ A m c, v = .slice A m c → n ≤ c
theorem cap_of_row {w : World} {b n : Nat} {e : TypeId} {v : Value} {xs : List Value} (h : w.ownsRow b e 1 v n xs) : CapOk v n := fun A m c hv => by
  rcases h.2 with ⟨h0, hn⟩ | ⟨g, cap, cur, h0, hb, hg, hnc, hm, hcs, htake⟩
  · omega
  · rw [h0] at hv
    obtain ⟨-, -, rfl⟩ : _ ∧ _ ∧ cap = c := by simpa using hv
    exact hnc
theorem cap_of_owns {w : World} {lo hi : Nat} {v : Value} {xs : List Int} (h : OwnsInts w lo hi v xs) : CapOk v xs.length := cap_of_row h.1

end Go.Proofs.YtellghhilcjbnaaDoor
