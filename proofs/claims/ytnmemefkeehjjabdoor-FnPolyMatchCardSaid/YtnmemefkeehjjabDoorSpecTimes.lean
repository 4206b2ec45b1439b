/-
  spec.l3Times: products of lists.
-/
import Derived.Test.YtnmemefkeehjjabDoorSpecPoly
namespace Go.Proofs.YtnmemefkeehjjabDoor
set_option linter.unusedVariables false
set_option linter.unusedSimpArgs false
open Go.RowKit

theorem wrap_in (x : Int) (h1 : -4000000000000000000 ≤ x) (h2 : x ≤ 4000000000000000000) : IntKind.i64.wrap x = x ∧ wrap64 x = x := by
  have h : IntKind.i64.wrap x = x := IntWalk.i64_in _ (by omega)
  exact ⟨h, by rw [← wrap_eq]; exact h⟩

theorem convAt_fresh (p q : List Int) (a k : Nat) : convAt p q a k (a + k) = convTo p q a (a + k) := by
  unfold convAt
  have e : a + k - a = k := by omega
  rw [e, if_neg (by omega), Int.add_zero]


end Go.Proofs.YtnmemefkeehjjabDoor
