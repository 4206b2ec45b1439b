/-
  A WHOLE GRAPH OUT OF ITS BLOCK AND INTO ONE, inside a fence.
-/
import Derived.Test.YtjijkgmeddeihaaDoorGraphs
import Derived.OwnWalkIn
namespace Go.Proofs.YtjijkgmeddeihaaDoor
set_option linter.unusedVariables false
set_option linter.unusedSimpArgs false
open Go.RowKit

theorem load_graph_in {F : Fence} {m : Nat} {ops : Array Oper} {rest : List Oper} {o : Oper} {a : Act} {w : World} {Q : Exit → Act → World → Prop} (hgd : o.guard = none) (x : Operand) (ho : o.op = .load 39 x)
    (g : Nat) (n : Nat) (f : Nat → Nat) (hx : a.eval x = .pointer (some ⟨g, 0, none⟩)) (hg : w.heap[g]? = some (.cells (gcells n f) 39 (0, 0)))
    (h : wpListIn F m Tryd.prog ops Q rest (a.put o.dst (.agg (gcells n f))) w) : wpListIn F m Tryd.prog ops Q (o :: rest) a w := by
  refine wpListIn_plain hgd fun K hK' => ?_
  unfold Oper.wpIn
  refine ⟨?_, ?_⟩
  · simp [Oper.about, ho]
  · rw [Oper.semAt_plain F _ _ (by rw [ho]; intro c hc'; cases hc')]
    unfold execOp
    simp only [ho, hx, Instr.loadAt, Instr.sureAddr, Sem.run_bind, Sem.run_pure, Result.andThen_ok, run_loadVar_row w g 39 39 (gcells n f) (0, 0) _ hg Tryd.underlying39 rfl (size_gcells n f)]
    exact hK' _ _ h

theorem store_graph_in {F : Fence} {m : Nat} {ops : Array Oper} {rest : List Oper} {o : Oper} {a : Act} {w : World} {Q : Exit → Act → World → Prop} (hgd : o.guard = none) (x y : Operand) (ho : o.op = .store 39 x y)
    (g : Nat) (n : Nat) (f : Nat → Nat) (hx : a.eval x = .pointer (some ⟨g, 0, none⟩)) (hy : a.eval y = .agg (gcells n f)) (n0 : Nat) (f0 : Nat → Nat)
    (hg : w.heap[g]? = some (.cells (gcells n0 f0) 39 (0, 0)))
    (h : wpListIn F m Tryd.prog ops Q rest (a.put o.dst undef) (w.setRow g (gcells n f))) : wpListIn F m Tryd.prog ops Q (o :: rest) a w := by
  refine wpListIn_plain hgd fun K hK' => ?_
  unfold Oper.wpIn
  refine ⟨?_, ?_⟩
  · simp [Oper.about, ho]
  · rw [Oper.semAt_plain F _ _ (by rw [ho]; intro c hc'; cases hc')]
    unfold execOp
    simp only [ho, hx, hy, Instr.storeAt, Instr.sureAddr, Sem.run_bind, Sem.run_pure, Result.andThen_ok, run_storeVar_row w g 39 39 (gcells n0 f0) (gcells n f) hg (size_gcells n f) rfl (gcells_one n f)]
    exact hK' _ _ h

theorem store_graph_new_in {F : Fence} {m : Nat} {ops : Array Oper} {rest : List Oper} {o : Oper} {a : Act} {w : World} {Q : Exit → Act → World → Prop} (hgd : o.guard = none) (x y : Operand) (ho : o.op = .store 39 x y)
    (n : Nat) (f : Nat → Nat) (hx : a.eval x = .pointer (some ⟨w.heap.size, 0, none⟩)) (hy : a.eval y = .agg (gcells n f))
    (h : wpListIn F m Tryd.prog ops Q rest (a.put o.dst undef) (w.alloc (.cells (gcells n f) 39))) :
    wpListIn F m Tryd.prog ops Q (o :: rest) a (w.alloc (.cells #[.int .i64 0, .int .i64 0, .int .i64 0, .int .i64 0, .int .i64 0, .int .i64 0, .int .i64 0, .int .i64 0, .int .i64 0] 39)) := by
  rw [gcells_zeros]
  refine store_graph_in hgd x y ho w.heap.size n f hx hy 0 (fun _ => 0) (World.alloc_heap_new w _) ?_
  rw [World.setRow_alloc_new]
  exact h

end Go.Proofs.YtjijkgmeddeihaaDoor
