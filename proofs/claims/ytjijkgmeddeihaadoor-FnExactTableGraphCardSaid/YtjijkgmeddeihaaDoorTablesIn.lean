/-
  A whole table out of its block and into one, inside a fence.
-/
import Derived.Test.YtjijkgmeddeihaaDoorTables
import Derived.OwnWalkIn
namespace Go.Proofs.YtjijkgmeddeihaaDoor
set_option linter.unusedVariables false
set_option linter.unusedSimpArgs false
open Go.RowKit

theorem load_table_in {F : Fence} {m : Nat} {ops : Array Oper} {rest : List Oper} {o : Oper} {a : Act} {w : World} {Q : Exit → Act → World → Prop} (hgd : o.guard = none) (x : Operand) (ho : o.op = .load 46 x)
    (g : Nat) (n : Nat) (f : Nat → Int) (hx : a.eval x = .pointer (some ⟨g, 0, none⟩)) (hg : w.heap[g]? = some (.cells (tcells n f) 46 (0, 0)))
    (h : wpListIn F m Tryd.prog ops Q rest (a.put o.dst (.agg (tcells n f))) w) : wpListIn F m Tryd.prog ops Q (o :: rest) a w := by
  refine wpListIn_plain hgd fun K hK' => ?_
  unfold Oper.wpIn
  refine ⟨?_, ?_⟩
  · simp [Oper.about, ho]
  · rw [Oper.semAt_plain F _ _ (by rw [ho]; intro c hc'; cases hc')]
    unfold execOp
    simp only [ho, hx, Instr.loadAt, Instr.sureAddr, Sem.run_bind, Sem.run_pure, Result.andThen_ok, run_loadVar_row w g 46 46 (tcells n f) (0, 0) _ hg Tryd.underlying46 rfl (size_tcells n f)]
    exact hK' _ _ h

theorem store_table_in {F : Fence} {m : Nat} {ops : Array Oper} {rest : List Oper} {o : Oper} {a : Act} {w : World} {Q : Exit → Act → World → Prop} (hgd : o.guard = none) (x y : Operand) (ho : o.op = .store 46 x y)
    (g : Nat) (n : Nat) (f : Nat → Int) (hx : a.eval x = .pointer (some ⟨g, 0, none⟩)) (hy : a.eval y = .agg (tcells n f)) (n0 : Nat) (f0 : Nat → Int)
    (hg : w.heap[g]? = some (.cells (tcells n0 f0) 46 (0, 0)))
    (h : wpListIn F m Tryd.prog ops Q rest (a.put o.dst undef) (w.setRow g (tcells n f))) : wpListIn F m Tryd.prog ops Q (o :: rest) a w := by
  refine wpListIn_plain hgd fun K hK' => ?_
  unfold Oper.wpIn
  refine ⟨?_, ?_⟩
  · simp [Oper.about, ho]
  · rw [Oper.semAt_plain F _ _ (by rw [ho]; intro c hc'; cases hc')]
    unfold execOp
    simp only [ho, hx, hy, Instr.storeAt, Instr.sureAddr, Sem.run_bind, Sem.run_pure, Result.andThen_ok, run_storeVar_row w g 46 46 (tcells n0 f0) (tcells n f) hg (size_tcells n f) rfl (tcells_one n f)]
    exact hK' _ _ h

theorem store_table_last_in {F : Fence} {m : Nat} {ops : Array Oper} {rest : List Oper} {o : Oper} {a : Act} {w : World} {Q : Exit → Act → World → Prop} (hgd : o.guard = none) (x y : Operand) (ho : o.op = .store 46 x y)
    (n : Nat) (f : Nat → Int) (b : Nat) (hb : w.heap.size = b) (hx : a.eval x = .pointer (some ⟨b, 0, none⟩)) (hy : a.eval y = .agg (tcells n f))
    (h : wpListIn F m Tryd.prog ops Q rest (a.put o.dst undef) (w.alloc (.cells (tcells n f) 46))) :
    wpListIn F m Tryd.prog ops Q (o :: rest) a (w.alloc (.cells (tcells 0 fun _ => 0) 46)) := by
  subst hb
  refine store_table_in hgd x y ho w.heap.size n f hx hy 0 (fun _ => 0) (World.alloc_heap_new w _) ?_
  rw [World.setRow_alloc_new]
  exact h

theorem alloc_table_in {F : Fence} {m : Nat} {ops : Array Oper} {rest : List Oper} {o : Oper} {a : Act} {w : World} {Q : Exit → Act → World → Prop} (hgd : o.guard = none) (ho : o.op = .alloc 46)
    (h : wpListIn F m Tryd.prog ops Q rest (a.put o.dst (.pointer (some ⟨w.heap.size, 0, none⟩))) (w.alloc (.cells (tcells 0 fun _ => 0) 46))) : wpListIn F m Tryd.prog ops Q (o :: rest) a w := by
  refine wpListIn_plain hgd fun K hK' => ?_
  unfold Oper.wpIn
  refine ⟨?_, ?_⟩
  · simp [Oper.about, ho]
  · rw [Oper.semAt_plain F _ _ (by rw [ho]; intro c hc'; cases hc')]
    unfold execOp
    simp only [ho, Sem.run_bind, run_alloc_table, Result.andThen_ok, Sem.run_pure]
    exact hK' _ _ h

theorem build_table_in {F : Fence} {m : Nat} {ops : Array Oper} {rest : List Oper} {o : Oper} {a : Act} {w : World} {Q : Exit → Act → World → Prop} (hgd : o.guard = none) (x : Operand) (ho : o.op = .build 46 #[(0, x)])
    (n : Nat) (hx : a.eval x = .int .i64 (n : Int))
    (h : wpListIn F m Tryd.prog ops Q rest (a.put o.dst (.agg (tcells n fun _ => 0))) w) : wpListIn F m Tryd.prog ops Q (o :: rest) a w := by
  have hb : Tryd.prog.built 46 [(0, .int .i64 (n : Int))] = some (tcells n fun _ => 0) := by kernel_rfl
  have hr := run_build (P := Tryd.prog) w 46 #[(0, .int .i64 (n : Int))] _ hb
  refine wpListIn_plain hgd fun K hK' => ?_
  unfold Oper.wpIn
  refine ⟨?_, ?_⟩
  · simp [Oper.about, ho]
  · rw [Oper.semAt_plain F _ _ (by rw [ho]; intro c hc'; cases hc')]
    simp only [ho, execOp, List.map_toArray, List.map_cons, List.map_nil, hx, Sem.run_bind, hr, Result.andThen_ok, Sem.run_pure]
    exact hK' _ _ h

end Go.Proofs.YtjijkgmeddeihaaDoor
