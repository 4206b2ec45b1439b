/-
  A whole table loaded in a region, where S says what lies there.
-/
import Derived.Test.YtellghhilcjbnaaDoorTabs
import Derived.Deep.RegionLaw
import Derived.Deep.RegionHeld
namespace Go.Proofs.YtellghhilcjbnaaDoor
set_option linter.unusedVariables false
set_option linter.unusedSimpArgs false
open Go.RowKit

/-- A whole table out of its block, where S says what lies there. -/
theorem yieldsIf_whole {ops : Array Oper} {S : World → Prop} {op : Oper} {a : Act} (hw : Region.wanted op (yielded ops a.tmps) = true) (x : Operand) (ho : op.op = .load 49 x)
    (g n : Nat) (F : Nat → Int) (hx : a.eval x = .pointer (some ⟨g, 0, none⟩)) (hS : ∀ w, S w → w.heap[g]? = some (.cells (tcells n F) 49 (0, 0))) : YieldsIf Tryd.prog ops S op (.agg (tcells n F)) a :=
  .inl ⟨hw, fun w hw' => by
    have hr : (Instr.loadAt 49 (.pointer (some ⟨g, 0, none⟩))).run Tryd.prog w = .ok (.agg (tcells n F)) w := by
      simp only [Instr.loadAt, Instr.sureAddr, Sem.run_bind, Sem.run_pure, Result.andThen_ok, run_loadVar_row w g 49 49 (tcells n F) (0, 0) _ (hS w hw') Tryd.underlying49 rfl (size_wcells n F)]
    unfold execOp
    simp only [ho, hx, Sem.run_bind, hr, Result.andThen_ok, Sem.run_pure]⟩

end Go.Proofs.YtellghhilcjbnaaDoor
