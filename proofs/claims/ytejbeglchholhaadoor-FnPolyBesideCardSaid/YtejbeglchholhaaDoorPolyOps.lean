/-
  impl.poly[int]: with, plus, minus, times, derived, valueAt: their contracts.
-/
import Derived.Test.YtejbeglchholhaaDoorPolyOf
import Derived.Deep.QuietTactic
import Derived.BigQuiet
import Derived.IntWalk
namespace Go.Proofs.YtejbeglchholhaaDoor
set_option linter.unusedVariables false
set_option linter.unusedSimpArgs false
open Go.RowKit

/-- A call that leaves the world alone, met where an order was drawn. -/
theorem still {P : Program} {f : FuncId} {args : Array Value} {w : World} {n : Nat} {v : Value} (h : Calls P f args (w.drewN n) fun e w' => e = .returned v ∧ w.drewN n = w') :
    Calls P f args (w.drewN n) fun e w' => e = .returned v ∧ ∃ m, w' = w.drewN m :=
  h.mono fun _ _ ⟨a, b⟩ => ⟨a, n, b.symm⟩

/-- A number of which sums and differences of two fit. -/
def Small (x : Int) : Prop := -1000000000000 ≤ x ∧ x ≤ 1000000000000







end Go.Proofs.YtejbeglchholhaaDoor
