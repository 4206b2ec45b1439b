/-
  spec.CostOf; (impl.wholeCosts).of, impl.CostOf; the law's walk with both contracts.
-/
import Derived.Test.YtellghhilcjbnaaDoorQOf
import Derived.Test.YtellghhilcjbnaaDoorLawQOf
namespace Go.Proofs.YtellghhilcjbnaaDoor
set_option linter.unusedVariables false
set_option linter.unusedSimpArgs false
open Go.RowKit

theorem iface_whole (n : Nat) (F : Nat → Int) (W : World) : (Instr.makeInterface 49 (.agg (tcells n F))).run Tryd.prog W = .ok (.iface 49 (.agg (tcells n F))) W := run_makeInterface _ _ _ (by kernel_rfl)


/-- What CostOf says. -/
def ofB (xss : List (List Int)) (ps : List Int) : Bool := cIn xss && rankB xss.length ps
def ofC (xss : List (List Int)) (ps : List Int) : Int := if ofB xss ps = true then cost8 xss ps else 0



end Go.Proofs.YtellghhilcjbnaaDoor
