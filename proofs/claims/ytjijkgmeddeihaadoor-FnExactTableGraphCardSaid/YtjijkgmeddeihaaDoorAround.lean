/-
  (graph).around: all neighbours of the nodes of a set; (graph).isFree.
-/
import Derived.Test.YtjijkgmeddeihaaDoorNeigh
import Derived.Test.YtjijkgmeddeihaaDoorReach
import Derived.Deep.QuietTactic
import Derived.BigQuiet
import Derived.Test.YtjijkgmeddeihaaDoorMarks
import Derived.Test.YtjijkgmeddeihaaDoorGraphsIn
namespace Go.Proofs.YtjijkgmeddeihaaDoor
set_option linter.unusedVariables false
set_option linter.unusedSimpArgs false
open Go.RowKit Go.Shelf
attribute [local go_sem] Oper.semAt_some

/-- A block of cells abides the turn of a block that is none. -/
theorem cells_kept {X Y : World} {row : Option Nat} {b : Nat} {c : Array Value} {t : TypeId} {fr : Nat × Nat} (h : X.heap[b]? = some (.cells c t fr)) (hg : X.grownBy Y row)
    (hrow : ∀ r, row = some r → ∃ o : Obj, X.heap[r]? = some o ∧ o.isCells = false) : Y.heap[b]? = some (.cells c t fr) :=
  (hg.block b (Array.getElem?_eq_some_iff.1 h).1 (fun e => by
    obtain ⟨o, ho, hc⟩ := hrow b e.symm
    rw [h] at ho; cases ho; cases hc)).trans h

theorem orL_val {f : Nat → Nat} (hf : ∀ i, f i < 256) (pre : List (Fin 8)) (x : Fin 8) : bits .or .i64 (orL f pre : Int) (f x.val : Int) = (orL f (pre ++ [x]) : Int) := by
  have h1 := orL_lt hf pre
  have h2 := hf x.val
  rw [or64 _ _ (by omega) (by omega), orL_snoc]

end Go.Proofs.YtjijkgmeddeihaaDoor
