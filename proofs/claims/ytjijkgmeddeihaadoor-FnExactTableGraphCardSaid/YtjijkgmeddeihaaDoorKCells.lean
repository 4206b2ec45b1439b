/-
  THE NUMBERS OF A TABLE AS A VALUE: six times six cells behind a name (kcells), and a row of six (vcells).
-/
import Derived.Test.YtjijkgmeddeihaaDoorTables
namespace Go.Proofs.YtjijkgmeddeihaaDoor
set_option linter.unusedVariables false
set_option linter.unusedSimpArgs false
open Go.RowKit

def kcells (F : Nat → Int) : Array Value := #[.int .i64 (F 0), .int .i64 (F 1), .int .i64 (F 2), .int .i64 (F 3), .int .i64 (F 4), .int .i64 (F 5), .int .i64 (F 6), .int .i64 (F 7), .int .i64 (F 8), .int .i64 (F 9), .int .i64 (F 10), .int .i64 (F 11), .int .i64 (F 12), .int .i64 (F 13), .int .i64 (F 14), .int .i64 (F 15), .int .i64 (F 16), .int .i64 (F 17), .int .i64 (F 18), .int .i64 (F 19), .int .i64 (F 20), .int .i64 (F 21), .int .i64 (F 22), .int .i64 (F 23), .int .i64 (F 24), .int .i64 (F 25), .int .i64 (F 26), .int .i64 (F 27), .int .i64 (F 28), .int .i64 (F 29), .int .i64 (F 30), .int .i64 (F 31), .int .i64 (F 32), .int .i64 (F 33), .int .i64 (F 34), .int .i64 (F 35)]
def vcells (F : Nat → Int) : Array Value := #[.int .i64 (F 0), .int .i64 (F 1), .int .i64 (F 2), .int .i64 (F 3), .int .i64 (F 4), .int .i64 (F 5)]
theorem kcells_size (F : Nat → Int) : (kcells F).size = 36 := rfl
theorem kcells_at (F : Nat → Int) (i : Nat) (h : i < 36) : (kcells F)[i]? = some (.int .i64 (F i)) := by
  match i, h with
  | 0, _ => rfl
  | 1, _ => rfl
  | 2, _ => rfl
  | 3, _ => rfl
  | 4, _ => rfl
  | 5, _ => rfl
  | 6, _ => rfl
  | 7, _ => rfl
  | 8, _ => rfl
  | 9, _ => rfl
  | 10, _ => rfl
  | 11, _ => rfl
  | 12, _ => rfl
  | 13, _ => rfl
  | 14, _ => rfl
  | 15, _ => rfl
  | 16, _ => rfl
  | 17, _ => rfl
  | 18, _ => rfl
  | 19, _ => rfl
  | 20, _ => rfl
  | 21, _ => rfl
  | 22, _ => rfl
  | 23, _ => rfl
  | 24, _ => rfl
  | 25, _ => rfl
  | 26, _ => rfl
  | 27, _ => rfl
  | 28, _ => rfl
  | 29, _ => rfl
  | 30, _ => rfl
  | 31, _ => rfl
  | 32, _ => rfl
  | 33, _ => rfl
  | 34, _ => rfl
  | 35, _ => rfl
  | _ + 36, h => exact absurd h (by omega)
theorem kcells_one (F : Nat → Int) : (kcells F).all (·.oneCell') = true := by simp [kcells, Value.oneCell']
theorem kcells_set (F : Nat → Int) (i : Nat) (x : Int) (h : i < 36) : (kcells F).setIfInBounds i (.int .i64 x) = kcells (updI F i x) := by
  match i, h with
  | 0, _ => rfl
  | 1, _ => rfl
  | 2, _ => rfl
  | 3, _ => rfl
  | 4, _ => rfl
  | 5, _ => rfl
  | 6, _ => rfl
  | 7, _ => rfl
  | 8, _ => rfl
  | 9, _ => rfl
  | 10, _ => rfl
  | 11, _ => rfl
  | 12, _ => rfl
  | 13, _ => rfl
  | 14, _ => rfl
  | 15, _ => rfl
  | 16, _ => rfl
  | 17, _ => rfl
  | 18, _ => rfl
  | 19, _ => rfl
  | 20, _ => rfl
  | 21, _ => rfl
  | 22, _ => rfl
  | 23, _ => rfl
  | 24, _ => rfl
  | 25, _ => rfl
  | 26, _ => rfl
  | 27, _ => rfl
  | 28, _ => rfl
  | 29, _ => rfl
  | 30, _ => rfl
  | 31, _ => rfl
  | 32, _ => rfl
  | 33, _ => rfl
  | 34, _ => rfl
  | 35, _ => rfl
  | _ + 36, h => exact absurd h (by omega)
theorem kcells_congr {F G : Nat → Int} (h : ∀ i, i < 36 → F i = G i) : kcells F = kcells G := by
  unfold kcells
  rw [h 0 (by decide), h 1 (by decide), h 2 (by decide), h 3 (by decide), h 4 (by decide), h 5 (by decide), h 6 (by decide), h 7 (by decide), h 8 (by decide), h 9 (by decide), h 10 (by decide), h 11 (by decide), h 12 (by decide), h 13 (by decide), h 14 (by decide), h 15 (by decide), h 16 (by decide), h 17 (by decide), h 18 (by decide), h 19 (by decide), h 20 (by decide), h 21 (by decide), h 22 (by decide), h 23 (by decide), h 24 (by decide), h 25 (by decide), h 26 (by decide), h 27 (by decide), h 28 (by decide), h 29 (by decide), h 30 (by decide), h 31 (by decide), h 32 (by decide), h 33 (by decide), h 34 (by decide), h 35 (by decide)]
theorem sizeCE : (Tryd.prog.info? 44).map (·.size) = some 36 := by kernel_rfl
theorem size_kcells (F : Nat → Int) : (Tryd.prog.info? 44).map (·.size) = some (kcells F).size := by rw [kcells_size]; exact sizeCE
theorem cells_cells {w : World} {g : Nat} {F : Nat → Int} (hg : w.heap[g]? = some (.cells (kcells F) 44 (0, 0))) :
    (∀ i, i < 36 → w.cell? ⟨g, i, none⟩ = some (.int .i64 (F i))) ∧ (∀ i, w.frozen? ⟨g, i, none⟩ = false) ∧ g < w.heap.size :=
  ⟨fun i hi => by rw [cell_of_row _ _ _ _ _ _ hg]; exact kcells_at F i hi, fun i => frozen_of_row w g i _ _ hg, (Array.getElem?_eq_some_iff.1 hg).1⟩
theorem cells_stored {w : World} {g : Nat} {F : Nat → Int} (i : Nat) (x : Int) (hi : i < 36) (hg : w.heap[g]? = some (.cells (kcells F) 44 (0, 0))) :
    (w.setCell ⟨g, i, none⟩ (.int .i64 x)).heap[g]? = some (.cells (kcells (updI F i x)) 44 (0, 0)) := by
  rw [heap_setCell_same w g i _ _ _ hg, kcells_set F i x hi]
theorem run_alloc_cells (w : World) : (Instr.alloc 44 true (.tuple #[])).run Tryd.prog w = .ok (.pointer (some ⟨w.heap.size, 0, none⟩)) (w.alloc (.cells (kcells fun _ => 0) 44)) := by
  have hz : ∀ w, (zeroValue 44).run Tryd.prog w = .ok (.agg (kcells fun _ => 0)) w := fun _ => by kernel_rfl
  unfold Instr.alloc
  simp only [Sem.run_bind, hz, Result.andThen, newVar]
  rfl
theorem alloc_cells {ops : Array Oper} {rest : List Oper} {o : Oper} {a : Act} {w : World} {Q : Exit → Act → World → Prop} (hgd : o.guard = none) (ho : o.op = .alloc 44)
    (h : wpList Tryd.prog ops Q rest (a.put o.dst (.pointer (some ⟨w.heap.size, 0, none⟩))) (w.alloc (.cells (kcells fun _ => 0) 44))) : wpList Tryd.prog ops Q (o :: rest) a w := by
  refine wpList_plain hgd fun K hK => ?_
  unfold Oper.wp
  simp only [ho, execOp, Sem.run_bind, run_alloc_cells, Result.andThen_ok, Sem.run_pure]
  exact hK _ _ h
theorem load_cells {ops : Array Oper} {rest : List Oper} {o : Oper} {a : Act} {w : World} {Q : Exit → Act → World → Prop} (hgd : o.guard = none) (x : Operand) (ho : o.op = .load 44 x)
    (g : Nat) (F : Nat → Int) (hx : a.eval x = .pointer (some ⟨g, 0, none⟩)) (hg : w.heap[g]? = some (.cells (kcells F) 44 (0, 0)))
    (h : wpList Tryd.prog ops Q rest (a.put o.dst (.agg (kcells F))) w) : wpList Tryd.prog ops Q (o :: rest) a w :=
  wpList_load_row hgd 44 x ho g hx 44 (kcells F) (0, 0) _ hg Tryd.underlying44 rfl (size_kcells F) h
theorem store_cells_last {ops : Array Oper} {rest : List Oper} {o : Oper} {a : Act} {w : World} {Q : Exit → Act → World → Prop} (hgd : o.guard = none) (x y : Operand) (ho : o.op = .store 44 x y)
    (F : Nat → Int) (b : Nat) (hb : w.heap.size = b) (hx : a.eval x = .pointer (some ⟨b, 0, none⟩)) (hy : a.eval y = .agg (kcells F))
    (h : wpList Tryd.prog ops Q rest (a.put o.dst undef) (w.alloc (.cells (kcells F) 44))) :
    wpList Tryd.prog ops Q (o :: rest) a (w.alloc (.cells (kcells fun _ => 0) 44)) := by
  subst hb
  refine wpList_store_row hgd 44 x y ho w.heap.size (kcells F) hx hy 44 (kcells fun _ => 0) (World.alloc_heap_new w _) (size_kcells F) rfl (kcells_one F) ?_
  rw [World.setRow_alloc_new]
  exact h
theorem store_cells {ops : Array Oper} {rest : List Oper} {o : Oper} {a : Act} {w : World} {Q : Exit → Act → World → Prop} (hgd : o.guard = none) (x y : Operand) (ho : o.op = .store 44 x y)
    (g : Nat) (F : Nat → Int) (hx : a.eval x = .pointer (some ⟨g, 0, none⟩)) (hy : a.eval y = .agg (kcells F)) (F0 : Nat → Int)
    (hg : w.heap[g]? = some (.cells (kcells F0) 44 (0, 0)))
    (h : wpList Tryd.prog ops Q rest (a.put o.dst undef) (w.setRow g (kcells F))) : wpList Tryd.prog ops Q (o :: rest) a w :=
  wpList_store_row hgd 44 x y ho g (kcells F) hx hy 44 (kcells F0) hg (size_kcells F) rfl (kcells_one F) h
theorem ret_cells {fn : Func} {p : Tmp} (h : fn.results = #[.cell p 44]) (tmps : Array Value) (w : World) (g : Nat) (F : Nat → Int)
    (hp : tmps.getD p undef = .pointer (some ⟨g, 0, none⟩)) (hg : w.heap[g]? = some (.cells (kcells F) 44 (0, 0))) :
    (results fn tmps).run Tryd.prog w = .ok (.agg (kcells F)) w :=
  results_cell_row h tmps w g 44 (kcells F) (0, 0) _ hp hg Tryd.underlying44 rfl (size_kcells F)

theorem vcells_size (F : Nat → Int) : (vcells F).size = 6 := rfl
theorem vcells_at (F : Nat → Int) (i : Nat) (h : i < 6) : (vcells F)[i]? = some (.int .i64 (F i)) := by
  match i, h with
  | 0, _ => rfl
  | 1, _ => rfl
  | 2, _ => rfl
  | 3, _ => rfl
  | 4, _ => rfl
  | 5, _ => rfl
  | _ + 6, h => exact absurd h (by omega)
theorem vcells_one (F : Nat → Int) : (vcells F).all (·.oneCell') = true := by simp [vcells, Value.oneCell']
theorem vcells_set (F : Nat → Int) (i : Nat) (x : Int) (h : i < 6) : (vcells F).setIfInBounds i (.int .i64 x) = vcells (updI F i x) := by
  match i, h with
  | 0, _ => rfl
  | 1, _ => rfl
  | 2, _ => rfl
  | 3, _ => rfl
  | 4, _ => rfl
  | 5, _ => rfl
  | _ + 6, h => exact absurd h (by omega)
theorem vcells_congr {F G : Nat → Int} (h : ∀ i, i < 6 → F i = G i) : vcells F = vcells G := by
  unfold vcells
  rw [h 0 (by decide), h 1 (by decide), h 2 (by decide), h 3 (by decide), h 4 (by decide), h 5 (by decide)]
theorem sizeVE : (Tryd.prog.info? 42).map (·.size) = some 6 := by kernel_rfl
theorem size_vcells (F : Nat → Int) : (Tryd.prog.info? 42).map (·.size) = some (vcells F).size := by rw [vcells_size]; exact sizeVE
theorem row_cellsV {w : World} {g : Nat} {F : Nat → Int} (hg : w.heap[g]? = some (.cells (vcells F) 42 (0, 0))) :
    (∀ i, i < 6 → w.cell? ⟨g, i, none⟩ = some (.int .i64 (F i))) ∧ (∀ i, w.frozen? ⟨g, i, none⟩ = false) ∧ g < w.heap.size :=
  ⟨fun i hi => by rw [cell_of_row _ _ _ _ _ _ hg]; exact vcells_at F i hi, fun i => frozen_of_row w g i _ _ hg, (Array.getElem?_eq_some_iff.1 hg).1⟩
theorem row_stored {w : World} {g : Nat} {F : Nat → Int} (i : Nat) (x : Int) (hi : i < 6) (hg : w.heap[g]? = some (.cells (vcells F) 42 (0, 0))) :
    (w.setCell ⟨g, i, none⟩ (.int .i64 x)).heap[g]? = some (.cells (vcells (updI F i x)) 42 (0, 0)) := by
  rw [heap_setCell_same w g i _ _ _ hg, vcells_set F i x hi]
theorem run_alloc_rowV (w : World) : (Instr.alloc 42 true (.tuple #[])).run Tryd.prog w = .ok (.pointer (some ⟨w.heap.size, 0, none⟩)) (w.alloc (.cells (vcells fun _ => 0) 42)) := by
  have hz : ∀ w, (zeroValue 42).run Tryd.prog w = .ok (.agg (vcells fun _ => 0)) w := fun _ => by kernel_rfl
  unfold Instr.alloc
  simp only [Sem.run_bind, hz, Result.andThen, newVar]
  rfl
theorem alloc_row {ops : Array Oper} {rest : List Oper} {o : Oper} {a : Act} {w : World} {Q : Exit → Act → World → Prop} (hgd : o.guard = none) (ho : o.op = .alloc 42)
    (h : wpList Tryd.prog ops Q rest (a.put o.dst (.pointer (some ⟨w.heap.size, 0, none⟩))) (w.alloc (.cells (vcells fun _ => 0) 42))) : wpList Tryd.prog ops Q (o :: rest) a w := by
  refine wpList_plain hgd fun K hK => ?_
  unfold Oper.wp
  simp only [ho, execOp, Sem.run_bind, run_alloc_rowV, Result.andThen_ok, Sem.run_pure]
  exact hK _ _ h
theorem load_row {ops : Array Oper} {rest : List Oper} {o : Oper} {a : Act} {w : World} {Q : Exit → Act → World → Prop} (hgd : o.guard = none) (x : Operand) (ho : o.op = .load 42 x)
    (g : Nat) (F : Nat → Int) (hx : a.eval x = .pointer (some ⟨g, 0, none⟩)) (hg : w.heap[g]? = some (.cells (vcells F) 42 (0, 0)))
    (h : wpList Tryd.prog ops Q rest (a.put o.dst (.agg (vcells F))) w) : wpList Tryd.prog ops Q (o :: rest) a w :=
  wpList_load_row hgd 42 x ho g hx 42 (vcells F) (0, 0) _ hg Tryd.underlying42 rfl (size_vcells F) h
theorem store_row_last {ops : Array Oper} {rest : List Oper} {o : Oper} {a : Act} {w : World} {Q : Exit → Act → World → Prop} (hgd : o.guard = none) (x y : Operand) (ho : o.op = .store 42 x y)
    (F : Nat → Int) (b : Nat) (hb : w.heap.size = b) (hx : a.eval x = .pointer (some ⟨b, 0, none⟩)) (hy : a.eval y = .agg (vcells F))
    (h : wpList Tryd.prog ops Q rest (a.put o.dst undef) (w.alloc (.cells (vcells F) 42))) :
    wpList Tryd.prog ops Q (o :: rest) a (w.alloc (.cells (vcells fun _ => 0) 42)) := by
  subst hb
  refine wpList_store_row hgd 42 x y ho w.heap.size (vcells F) hx hy 42 (vcells fun _ => 0) (World.alloc_heap_new w _) (size_vcells F) rfl (vcells_one F) ?_
  rw [World.setRow_alloc_new]
  exact h
theorem store_row {ops : Array Oper} {rest : List Oper} {o : Oper} {a : Act} {w : World} {Q : Exit → Act → World → Prop} (hgd : o.guard = none) (x y : Operand) (ho : o.op = .store 42 x y)
    (g : Nat) (F : Nat → Int) (hx : a.eval x = .pointer (some ⟨g, 0, none⟩)) (hy : a.eval y = .agg (vcells F)) (F0 : Nat → Int)
    (hg : w.heap[g]? = some (.cells (vcells F0) 42 (0, 0)))
    (h : wpList Tryd.prog ops Q rest (a.put o.dst undef) (w.setRow g (vcells F))) : wpList Tryd.prog ops Q (o :: rest) a w :=
  wpList_store_row hgd 42 x y ho g (vcells F) hx hy 42 (vcells F0) hg (size_vcells F) rfl (vcells_one F) h
theorem ret_row {fn : Func} {p : Tmp} (h : fn.results = #[.cell p 42]) (tmps : Array Value) (w : World) (g : Nat) (F : Nat → Int)
    (hp : tmps.getD p undef = .pointer (some ⟨g, 0, none⟩)) (hg : w.heap[g]? = some (.cells (vcells F) 42 (0, 0))) :
    (results fn tmps).run Tryd.prog w = .ok (.agg (vcells F)) w :=
  results_cell_row h tmps w g 42 (vcells F) (0, 0) _ hp hg Tryd.underlying42 rfl (size_vcells F)

theorem field_cells (n : Nat) (F : Nat → Int) (W : World) : (Instr.field 46 (.agg (tcells n F)) 1).run Tryd.prog W = .ok (.agg (kcells F)) W := by kernel_rfl
theorem index_row (F : Nat → Int) (k : Nat) (hk : k < 6) (W : World) : (Instr.index 44 (.agg (kcells F)) (.int .i64 (k : Int))).run Tryd.prog W = .ok (.agg (vcells fun j => F (6 * k + j))) W := by
  obtain rfl | rfl | rfl | rfl | rfl | rfl : k = 0 ∨ k = 1 ∨ k = 2 ∨ k = 3 ∨ k = 4 ∨ k = 5 := by omega
  all_goals kernel_rfl
theorem index_num (G : Nat → Int) (k : Nat) (hk : k < 6) (W : World) : (Instr.index 42 (.agg (vcells G)) (.int .i64 (k : Int))).run Tryd.prog W = .ok (.int .i64 (G k)) W := by
  obtain rfl | rfl | rfl | rfl | rfl | rfl : k = 0 ∨ k = 1 ∨ k = 2 ∨ k = 3 ∨ k = 4 ∨ k = 5 := by omega
  all_goals kernel_rfl

end Go.Proofs.YtjijkgmeddeihaaDoor
