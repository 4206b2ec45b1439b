/-
  COSTS AS VALUES: a table in a struct of its own type.
-/
import Derived.Test.YtfcbhcjgjbcjdaaDoorTables
namespace Go.Proofs.YtfcbhcjgjbcjdaaDoor
set_option linter.unusedVariables false
set_option linter.unusedSimpArgs false
open Go.RowKit

theorem sizeWC : (Tryd.prog.info? 77).map (·.size) = some 37 := by kernel_rfl
theorem size_wcells (n : Nat) (F : Nat → Int) : (Tryd.prog.info? 77).map (·.size) = some (tcells n F).size := by rw [tcells_size]; exact sizeWC

/-- The cells of a table that lies in a block. -/
theorem whole_cells {w : World} {g n : Nat} {F : Nat → Int} (hg : w.heap[g]? = some (.cells (tcells n F) 77 (0, 0))) :
    w.cell? ⟨g, 0, none⟩ = some (.int .i64 (n : Int)) ∧ (∀ i, i < 36 → w.cell? ⟨g, 1 + i, none⟩ = some (.int .i64 (F i))) ∧ (∀ i, w.frozen? ⟨g, i, none⟩ = false) ∧ g < w.heap.size :=
  ⟨by rw [cell_of_row _ _ _ _ _ _ hg]; rfl, fun i hi => by rw [cell_of_row _ _ _ _ _ _ hg]; exact tcells_at n F i hi, fun i => frozen_of_row w g i _ _ hg, (Array.getElem?_eq_some_iff.1 hg).1⟩
theorem whole_stored {w : World} {g n : Nat} {F : Nat → Int} (i : Nat) (x : Int) (hi : i < 36) (hg : w.heap[g]? = some (.cells (tcells n F) 77 (0, 0))) :
    (w.setCell ⟨g, 1 + i, none⟩ (.int .i64 x)).heap[g]? = some (.cells (tcells n (updI F i x)) 77 (0, 0)) := by
  rw [heap_setCell_same w g (1 + i) _ _ _ hg, tcells_set n F i x hi]

theorem load_whole {ops : Array Oper} {rest : List Oper} {o : Oper} {a : Act} {w : World} {Q : Exit → Act → World → Prop} (hgd : o.guard = none) (x : Operand) (ho : o.op = .load 77 x)
    (g : Nat) (n : Nat) (F : Nat → Int) (hx : a.eval x = .pointer (some ⟨g, 0, none⟩)) (hg : w.heap[g]? = some (.cells (tcells n F) 77 (0, 0)))
    (h : wpList Tryd.prog ops Q rest (a.put o.dst (.agg (tcells n F))) w) : wpList Tryd.prog ops Q (o :: rest) a w :=
  wpList_load_row hgd 77 x ho g hx 77 (tcells n F) (0, 0) _ hg Tryd.underlying77 rfl (size_wcells n F) h
/-- The same, behind a guard that is met. -/
theorem load_whole_g {ops : Array Oper} {rest : List Oper} {o : Oper} {a : Act} {w : World} {Q : Exit → Act → World → Prop} (hw : Region.wanted o (yielded ops a.tmps) = true) (x : Operand) (ho : o.op = .load 77 x)
    (g : Nat) (n : Nat) (F : Nat → Int) (hx : a.eval x = .pointer (some ⟨g, 0, none⟩)) (hg : w.heap[g]? = some (.cells (tcells n F) 77 (0, 0)))
    (h : wpList Tryd.prog ops Q rest (a.put o.dst (.agg (tcells n F))) w) : wpList Tryd.prog ops Q (o :: rest) a w := by
  have hr : (Instr.loadAt 77 (.pointer (some ⟨g, 0, none⟩))).run Tryd.prog w = .ok (.agg (tcells n F)) w := by
    simp only [Instr.loadAt, Instr.sureAddr, Sem.run_bind, Sem.run_pure, Result.andThen_ok, run_loadVar_row w g 77 77 (tcells n F) (0, 0) _ hg Tryd.underlying77 rfl (size_wcells n F)]
  refine wpList_step fun K hK => ?_
  rw [if_pos hw]
  unfold Oper.wp
  simp only [ho, execOp, hx, Sem.run_bind, hr, Result.andThen_ok, Sem.run_pure]
  exact hK _ _ h
theorem store_whole {ops : Array Oper} {rest : List Oper} {o : Oper} {a : Act} {w : World} {Q : Exit → Act → World → Prop} (hgd : o.guard = none) (x y : Operand) (ho : o.op = .store 77 x y)
    (g : Nat) (n : Nat) (F : Nat → Int) (hx : a.eval x = .pointer (some ⟨g, 0, none⟩)) (hy : a.eval y = .agg (tcells n F)) (n0 : Nat) (F0 : Nat → Int)
    (hg : w.heap[g]? = some (.cells (tcells n0 F0) 77 (0, 0)))
    (h : wpList Tryd.prog ops Q rest (a.put o.dst undef) (w.setRow g (tcells n F))) : wpList Tryd.prog ops Q (o :: rest) a w :=
  wpList_store_row hgd 77 x y ho g (tcells n F) hx hy 77 (tcells n0 F0) hg (size_wcells n F) rfl (tcells_one n F) h
/-- A whole table into a block that was made last, with zeros. -/
theorem store_whole_new {ops : Array Oper} {rest : List Oper} {o : Oper} {a : Act} {w : World} {Q : Exit → Act → World → Prop} (hgd : o.guard = none) (x y : Operand) (ho : o.op = .store 77 x y)
    (n : Nat) (F : Nat → Int) (b : Nat) (hb : w.heap.size = b) (hx : a.eval x = .pointer (some ⟨b, 0, none⟩)) (hy : a.eval y = .agg (tcells n F))
    (h : wpList Tryd.prog ops Q rest (a.put o.dst undef) (w.alloc (.cells (tcells n F) 77))) :
    wpList Tryd.prog ops Q (o :: rest) a (w.alloc (.cells #[.int .i64 0, .int .i64 0, .int .i64 0, .int .i64 0, .int .i64 0, .int .i64 0, .int .i64 0, .int .i64 0, .int .i64 0, .int .i64 0, .int .i64 0, .int .i64 0, .int .i64 0, .int .i64 0, .int .i64 0, .int .i64 0, .int .i64 0, .int .i64 0, .int .i64 0, .int .i64 0, .int .i64 0, .int .i64 0, .int .i64 0, .int .i64 0, .int .i64 0, .int .i64 0, .int .i64 0, .int .i64 0, .int .i64 0, .int .i64 0, .int .i64 0, .int .i64 0, .int .i64 0, .int .i64 0, .int .i64 0, .int .i64 0, .int .i64 0] 77)) := by
  subst hb
  rw [tcells_zeros]
  refine store_whole hgd x y ho w.heap.size n F hx hy 0 (fun _ => 0) (World.alloc_heap_new w _) ?_
  rw [World.setRow_alloc_new]
  exact h
/-- A whole table into a block that was made last, in its name's form. -/
theorem store_whole_last {ops : Array Oper} {rest : List Oper} {o : Oper} {a : Act} {w : World} {Q : Exit → Act → World → Prop} (hgd : o.guard = none) (x y : Operand) (ho : o.op = .store 77 x y)
    (n : Nat) (F : Nat → Int) (b : Nat) (hb : w.heap.size = b) (hx : a.eval x = .pointer (some ⟨b, 0, none⟩)) (hy : a.eval y = .agg (tcells n F))
    (h : wpList Tryd.prog ops Q rest (a.put o.dst undef) (w.alloc (.cells (tcells n F) 77))) :
    wpList Tryd.prog ops Q (o :: rest) a (w.alloc (.cells (tcells 0 fun _ => 0) 77)) := by
  subst hb
  refine store_whole hgd x y ho w.heap.size n F hx hy 0 (fun _ => 0) (World.alloc_heap_new w _) ?_
  rw [World.setRow_alloc_new]
  exact h
theorem ret_whole2 {fn : Func} {p u : Tmp} (h : fn.results = #[.cell p 77, .tmp u]) (tmps : Array Value) (w : World) (g n : Nat) (F : Nat → Int) (v : Value)
    (hp : tmps.getD p undef = .pointer (some ⟨g, 0, none⟩)) (hv : tmps.getD u undef = v) (hg : w.heap[g]? = some (.cells (tcells n F) 77 (0, 0))) :
    (results fn tmps).run Tryd.prog w = .ok (.tuple #[.agg (tcells n F), v]) w := by
  subst hv
  rw [results_cell_tmp h tmps Tryd.prog w, hp]
  simp only [asAddr, Sem.run_pure, Result.andThen]
  rw [run_loadVar_row w g 77 77 (tcells n F) (0, 0) _ hg Tryd.underlying77 rfl (size_wcells n F)]

theorem run_alloc_whole (w : World) : (Instr.alloc 77 true (.tuple #[])).run Tryd.prog w = .ok (.pointer (some ⟨w.heap.size, 0, none⟩)) (w.alloc (.cells (tcells 0 fun _ => 0) 77)) := by
  have hz : ∀ w, (zeroValue 77).run Tryd.prog w = .ok (.agg (tcells 0 fun _ => 0)) w := fun _ => by kernel_rfl
  unfold Instr.alloc
  simp only [Sem.run_bind, hz, Result.andThen, newVar]
  rfl
theorem alloc_whole {ops : Array Oper} {rest : List Oper} {o : Oper} {a : Act} {w : World} {Q : Exit → Act → World → Prop} (hgd : o.guard = none) (ho : o.op = .alloc 77)
    (h : wpList Tryd.prog ops Q rest (a.put o.dst (.pointer (some ⟨w.heap.size, 0, none⟩))) (w.alloc (.cells (tcells 0 fun _ => 0) 77))) : wpList Tryd.prog ops Q (o :: rest) a w := by
  refine wpList_plain hgd fun K hK => ?_
  unfold Oper.wp
  simp only [ho, execOp, Sem.run_bind, run_alloc_whole, Result.andThen_ok, Sem.run_pure]
  exact hK _ _ h
theorem build_whole {ops : Array Oper} {rest : List Oper} {o : Oper} {a : Act} {w : World} {Q : Exit → Act → World → Prop} (hgd : o.guard = none) (x : Operand) (ho : o.op = .build 77 #[(0, x)])
    (n : Nat) (F : Nat → Int) (hx : a.eval x = .agg (tcells n F))
    (h : wpList Tryd.prog ops Q rest (a.put o.dst (.agg (tcells n F))) w) : wpList Tryd.prog ops Q (o :: rest) a w := by
  have hb : Tryd.prog.built 77 [(0, .agg (tcells n F))] = some (tcells n F) := by kernel_rfl
  have hr := run_build (P := Tryd.prog) w 77 #[(0, .agg (tcells n F))] _ hb
  refine wpList_plain hgd fun K hK => ?_
  unfold Oper.wp
  simp only [ho, execOp, List.map_toArray, List.map_cons, List.map_nil, hx, Sem.run_bind, hr, Result.andThen_ok, Sem.run_pure]
  exact hK _ _ h
theorem build_whole0 {ops : Array Oper} {rest : List Oper} {o : Oper} {a : Act} {w : World} {Q : Exit → Act → World → Prop} (hgd : o.guard = none) (ho : o.op = .build 77 #[])
    (h : wpList Tryd.prog ops Q rest (a.put o.dst (.agg (tcells 0 fun _ => 0))) w) : wpList Tryd.prog ops Q (o :: rest) a w := by
  have hb : Tryd.prog.built 77 [] = some (tcells 0 fun _ => 0) := by kernel_rfl
  have hr := run_build (P := Tryd.prog) w 77 #[] _ hb
  refine wpList_plain hgd fun K hK => ?_
  unfold Oper.wp
  simp only [ho, execOp, List.map_toArray, List.map_nil, Sem.run_bind, hr, Result.andThen_ok, Sem.run_pure]
  exact hK _ _ h

end Go.Proofs.YtfcbhcjgjbcjdaaDoor
