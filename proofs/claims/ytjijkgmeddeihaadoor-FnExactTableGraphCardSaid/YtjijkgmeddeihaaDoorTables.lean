/-
  TABLES AS VALUES: thirty-seven cells: the number of rows and six times six numbers. The cells are kept behind a name (tcells), so that a walk carries them whole.
-/
import Derived.Test.YtjijkgmeddeihaaDoorBase
import Derived.Deep.WholeRow
import Derived.Laws.Tables
namespace Go.Proofs.YtjijkgmeddeihaaDoor
set_option linter.unusedVariables false
set_option linter.unusedSimpArgs false
open Go.RowKit

def tcells (n : Nat) (F : Nat → Int) : Array Value := #[.int .i64 (n : Int), .int .i64 (F 0), .int .i64 (F 1), .int .i64 (F 2), .int .i64 (F 3), .int .i64 (F 4), .int .i64 (F 5), .int .i64 (F 6), .int .i64 (F 7), .int .i64 (F 8), .int .i64 (F 9), .int .i64 (F 10), .int .i64 (F 11), .int .i64 (F 12), .int .i64 (F 13), .int .i64 (F 14), .int .i64 (F 15), .int .i64 (F 16), .int .i64 (F 17), .int .i64 (F 18), .int .i64 (F 19), .int .i64 (F 20), .int .i64 (F 21), .int .i64 (F 22), .int .i64 (F 23), .int .i64 (F 24), .int .i64 (F 25), .int .i64 (F 26), .int .i64 (F 27), .int .i64 (F 28), .int .i64 (F 29), .int .i64 (F 30), .int .i64 (F 31), .int .i64 (F 32), .int .i64 (F 33), .int .i64 (F 34), .int .i64 (F 35)]
def updI (F : Nat → Int) (i : Nat) (x : Int) : Nat → Int := fun j => if j = i then x else F j
theorem tcells_size (n : Nat) (F : Nat → Int) : (tcells n F).size = 37 := rfl
theorem tcells_zero (n : Nat) (F : Nat → Int) : (tcells n F)[0]? = some (.int .i64 (n : Int)) := rfl
theorem tcells_at (n : Nat) (F : Nat → Int) (i : Nat) (h : i < 36) : (tcells n F)[1 + i]? = some (.int .i64 (F i)) := by
  match i, h with
  | 0, _ => rfl
  | 1, _ => rfl
  | 2, _ => rfl
  | 3, _ => rfl
  | 4, _ => rfl
  | 5, _ => rfl
  | 6, _ => rfl
  | 7, _ => rfl
  | 8, _ => rfl
  | 9, _ => rfl
  | 10, _ => rfl
  | 11, _ => rfl
  | 12, _ => rfl
  | 13, _ => rfl
  | 14, _ => rfl
  | 15, _ => rfl
  | 16, _ => rfl
  | 17, _ => rfl
  | 18, _ => rfl
  | 19, _ => rfl
  | 20, _ => rfl
  | 21, _ => rfl
  | 22, _ => rfl
  | 23, _ => rfl
  | 24, _ => rfl
  | 25, _ => rfl
  | 26, _ => rfl
  | 27, _ => rfl
  | 28, _ => rfl
  | 29, _ => rfl
  | 30, _ => rfl
  | 31, _ => rfl
  | 32, _ => rfl
  | 33, _ => rfl
  | 34, _ => rfl
  | 35, _ => rfl
  | _ + 36, h => exact absurd h (by omega)
theorem tcells_one (n : Nat) (F : Nat → Int) : (tcells n F).all (·.oneCell') = true := by simp [tcells, Value.oneCell']
theorem tcells_set (n : Nat) (F : Nat → Int) (i : Nat) (x : Int) (h : i < 36) : (tcells n F).setIfInBounds (1 + i) (.int .i64 x) = tcells n (updI F i x) := by
  match i, h with
  | 0, _ => rfl
  | 1, _ => rfl
  | 2, _ => rfl
  | 3, _ => rfl
  | 4, _ => rfl
  | 5, _ => rfl
  | 6, _ => rfl
  | 7, _ => rfl
  | 8, _ => rfl
  | 9, _ => rfl
  | 10, _ => rfl
  | 11, _ => rfl
  | 12, _ => rfl
  | 13, _ => rfl
  | 14, _ => rfl
  | 15, _ => rfl
  | 16, _ => rfl
  | 17, _ => rfl
  | 18, _ => rfl
  | 19, _ => rfl
  | 20, _ => rfl
  | 21, _ => rfl
  | 22, _ => rfl
  | 23, _ => rfl
  | 24, _ => rfl
  | 25, _ => rfl
  | 26, _ => rfl
  | 27, _ => rfl
  | 28, _ => rfl
  | 29, _ => rfl
  | 30, _ => rfl
  | 31, _ => rfl
  | 32, _ => rfl
  | 33, _ => rfl
  | 34, _ => rfl
  | 35, _ => rfl
  | _ + 36, h => exact absurd h (by omega)
theorem tcells_new (n : Nat) : (#[.int .i64 (n : Int), .int .i64 0, .int .i64 0, .int .i64 0, .int .i64 0, .int .i64 0, .int .i64 0, .int .i64 0, .int .i64 0, .int .i64 0, .int .i64 0, .int .i64 0, .int .i64 0, .int .i64 0, .int .i64 0, .int .i64 0, .int .i64 0, .int .i64 0, .int .i64 0, .int .i64 0, .int .i64 0, .int .i64 0, .int .i64 0, .int .i64 0, .int .i64 0, .int .i64 0, .int .i64 0, .int .i64 0, .int .i64 0, .int .i64 0, .int .i64 0, .int .i64 0, .int .i64 0, .int .i64 0, .int .i64 0, .int .i64 0, .int .i64 0] : Array Value) = tcells n (fun _ => 0) := rfl
theorem tcells_zeros : (#[.int .i64 0, .int .i64 0, .int .i64 0, .int .i64 0, .int .i64 0, .int .i64 0, .int .i64 0, .int .i64 0, .int .i64 0, .int .i64 0, .int .i64 0, .int .i64 0, .int .i64 0, .int .i64 0, .int .i64 0, .int .i64 0, .int .i64 0, .int .i64 0, .int .i64 0, .int .i64 0, .int .i64 0, .int .i64 0, .int .i64 0, .int .i64 0, .int .i64 0, .int .i64 0, .int .i64 0, .int .i64 0, .int .i64 0, .int .i64 0, .int .i64 0, .int .i64 0, .int .i64 0, .int .i64 0, .int .i64 0, .int .i64 0, .int .i64 0] : Array Value) = tcells 0 (fun _ => 0) := rfl
theorem tcells_congr {n : Nat} {F G : Nat → Int} (h : ∀ i, i < 36 → F i = G i) : tcells n F = tcells n G := by
  unfold tcells
  rw [h 0 (by decide), h 1 (by decide), h 2 (by decide), h 3 (by decide), h 4 (by decide), h 5 (by decide), h 6 (by decide), h 7 (by decide), h 8 (by decide), h 9 (by decide), h 10 (by decide), h 11 (by decide), h 12 (by decide), h 13 (by decide), h 14 (by decide), h 15 (by decide), h 16 (by decide), h 17 (by decide), h 18 (by decide), h 19 (by decide), h 20 (by decide), h 21 (by decide), h 22 (by decide), h 23 (by decide), h 24 (by decide), h 25 (by decide), h 26 (by decide), h 27 (by decide), h 28 (by decide), h 29 (by decide), h 30 (by decide), h 31 (by decide), h 32 (by decide), h 33 (by decide), h 34 (by decide), h 35 (by decide)]

theorem sizeTB : (Tryd.prog.info? 46).map (·.size) = some 37 := by kernel_rfl
theorem size_tcells (n : Nat) (F : Nat → Int) : (Tryd.prog.info? 46).map (·.size) = some (tcells n F).size := by rw [tcells_size]; exact sizeTB

/-- The cells of a table that lies in a block. -/
theorem table_cells {w : World} {g n : Nat} {F : Nat → Int} (hg : w.heap[g]? = some (.cells (tcells n F) 46 (0, 0))) :
    w.cell? ⟨g, 0, none⟩ = some (.int .i64 (n : Int)) ∧ (∀ i, i < 36 → w.cell? ⟨g, 1 + i, none⟩ = some (.int .i64 (F i))) ∧ (∀ i, w.frozen? ⟨g, i, none⟩ = false) ∧ g < w.heap.size :=
  ⟨by rw [cell_of_row _ _ _ _ _ _ hg]; rfl, fun i hi => by rw [cell_of_row _ _ _ _ _ _ hg]; exact tcells_at n F i hi, fun i => frozen_of_row w g i _ _ hg, (Array.getElem?_eq_some_iff.1 hg).1⟩
theorem table_stored {w : World} {g n : Nat} {F : Nat → Int} (i : Nat) (x : Int) (hi : i < 36) (hg : w.heap[g]? = some (.cells (tcells n F) 46 (0, 0))) :
    (w.setCell ⟨g, 1 + i, none⟩ (.int .i64 x)).heap[g]? = some (.cells (tcells n (updI F i x)) 46 (0, 0)) := by
  rw [heap_setCell_same w g (1 + i) _ _ _ hg, tcells_set n F i x hi]

theorem load_table {ops : Array Oper} {rest : List Oper} {o : Oper} {a : Act} {w : World} {Q : Exit → Act → World → Prop} (hgd : o.guard = none) (x : Operand) (ho : o.op = .load 46 x)
    (g : Nat) (n : Nat) (F : Nat → Int) (hx : a.eval x = .pointer (some ⟨g, 0, none⟩)) (hg : w.heap[g]? = some (.cells (tcells n F) 46 (0, 0)))
    (h : wpList Tryd.prog ops Q rest (a.put o.dst (.agg (tcells n F))) w) : wpList Tryd.prog ops Q (o :: rest) a w :=
  wpList_load_row hgd 46 x ho g hx 46 (tcells n F) (0, 0) _ hg Tryd.underlying46 rfl (size_tcells n F) h
/-- The same, behind a guard that is met. -/
theorem load_table_g {ops : Array Oper} {rest : List Oper} {o : Oper} {a : Act} {w : World} {Q : Exit → Act → World → Prop} (hw : Region.wanted o (yielded ops a.tmps) = true) (x : Operand) (ho : o.op = .load 46 x)
    (g : Nat) (n : Nat) (F : Nat → Int) (hx : a.eval x = .pointer (some ⟨g, 0, none⟩)) (hg : w.heap[g]? = some (.cells (tcells n F) 46 (0, 0)))
    (h : wpList Tryd.prog ops Q rest (a.put o.dst (.agg (tcells n F))) w) : wpList Tryd.prog ops Q (o :: rest) a w := by
  have hr : (Instr.loadAt 46 (.pointer (some ⟨g, 0, none⟩))).run Tryd.prog w = .ok (.agg (tcells n F)) w := by
    simp only [Instr.loadAt, Instr.sureAddr, Sem.run_bind, Sem.run_pure, Result.andThen_ok, run_loadVar_row w g 46 46 (tcells n F) (0, 0) _ hg Tryd.underlying46 rfl (size_tcells n F)]
  refine wpList_step fun K hK => ?_
  rw [if_pos hw]
  unfold Oper.wp
  simp only [ho, execOp, hx, Sem.run_bind, hr, Result.andThen_ok, Sem.run_pure]
  exact hK _ _ h
theorem store_table {ops : Array Oper} {rest : List Oper} {o : Oper} {a : Act} {w : World} {Q : Exit → Act → World → Prop} (hgd : o.guard = none) (x y : Operand) (ho : o.op = .store 46 x y)
    (g : Nat) (n : Nat) (F : Nat → Int) (hx : a.eval x = .pointer (some ⟨g, 0, none⟩)) (hy : a.eval y = .agg (tcells n F)) (n0 : Nat) (F0 : Nat → Int)
    (hg : w.heap[g]? = some (.cells (tcells n0 F0) 46 (0, 0)))
    (h : wpList Tryd.prog ops Q rest (a.put o.dst undef) (w.setRow g (tcells n F))) : wpList Tryd.prog ops Q (o :: rest) a w :=
  wpList_store_row hgd 46 x y ho g (tcells n F) hx hy 46 (tcells n0 F0) hg (size_tcells n F) rfl (tcells_one n F) h
theorem heap_setRowT {w : World} {g : Nat} {cs c' : Array Value} {t : TypeId} {fr : Nat × Nat} (h : w.heap[g]? = some (.cells cs t fr)) : (w.setRow g c').heap[g]? = some (.cells c' t fr) := by
  have hlt := (Array.getElem?_eq_some_iff.1 h).1
  have h' : w.heap[g] = .cells cs t fr := by simpa [Array.getElem?_eq_getElem hlt] using h
  show (w.heap.modify g _)[g]? = _
  rw [Array.getElem?_eq_getElem (by simpa using hlt), Array.getElem_modify_self, h']
theorem heap_setRowT_other (w : World) (g k : Nat) (c' : Array Value) (h : k ≠ g) : (w.setRow g c').heap[k]? = w.heap[k]? := by
  show (w.heap.modify g _)[k]? = _
  rw [Array.getElem?_modify, if_neg (by omega)]
theorem below_setRowT {B : Nat} {a w : World} (h : Below B a w) {g : Nat} (hg : B ≤ g) (c : Array Value) : Below B a (w.setRow g c) :=
  h.trans ⟨rfl, rfl, rfl, by simp [World.setRow], fun k hk => heap_setRowT_other w g k c (by omega)⟩
/-- A whole table into a block that was made last, with zeros. -/
theorem store_table_new {ops : Array Oper} {rest : List Oper} {o : Oper} {a : Act} {w : World} {Q : Exit → Act → World → Prop} (hgd : o.guard = none) (x y : Operand) (ho : o.op = .store 46 x y)
    (n : Nat) (F : Nat → Int) (b : Nat) (hb : w.heap.size = b) (hx : a.eval x = .pointer (some ⟨b, 0, none⟩)) (hy : a.eval y = .agg (tcells n F))
    (h : wpList Tryd.prog ops Q rest (a.put o.dst undef) (w.alloc (.cells (tcells n F) 46))) :
    wpList Tryd.prog ops Q (o :: rest) a (w.alloc (.cells #[.int .i64 0, .int .i64 0, .int .i64 0, .int .i64 0, .int .i64 0, .int .i64 0, .int .i64 0, .int .i64 0, .int .i64 0, .int .i64 0, .int .i64 0, .int .i64 0, .int .i64 0, .int .i64 0, .int .i64 0, .int .i64 0, .int .i64 0, .int .i64 0, .int .i64 0, .int .i64 0, .int .i64 0, .int .i64 0, .int .i64 0, .int .i64 0, .int .i64 0, .int .i64 0, .int .i64 0, .int .i64 0, .int .i64 0, .int .i64 0, .int .i64 0, .int .i64 0, .int .i64 0, .int .i64 0, .int .i64 0, .int .i64 0, .int .i64 0] 46)) := by
  subst hb
  rw [tcells_zeros]
  refine store_table hgd x y ho w.heap.size n F hx hy 0 (fun _ => 0) (World.alloc_heap_new w _) ?_
  rw [World.setRow_alloc_new]
  exact h
/-- A whole table into a block that was made last, in its name's form. -/
theorem store_table_last {ops : Array Oper} {rest : List Oper} {o : Oper} {a : Act} {w : World} {Q : Exit → Act → World → Prop} (hgd : o.guard = none) (x y : Operand) (ho : o.op = .store 46 x y)
    (n : Nat) (F : Nat → Int) (b : Nat) (hb : w.heap.size = b) (hx : a.eval x = .pointer (some ⟨b, 0, none⟩)) (hy : a.eval y = .agg (tcells n F))
    (h : wpList Tryd.prog ops Q rest (a.put o.dst undef) (w.alloc (.cells (tcells n F) 46))) :
    wpList Tryd.prog ops Q (o :: rest) a (w.alloc (.cells (tcells 0 fun _ => 0) 46)) := by
  subst hb
  refine store_table hgd x y ho w.heap.size n F hx hy 0 (fun _ => 0) (World.alloc_heap_new w _) ?_
  rw [World.setRow_alloc_new]
  exact h
theorem ret_table2 {fn : Func} {p u : Tmp} (h : fn.results = #[.cell p 46, .tmp u]) (tmps : Array Value) (w : World) (g n : Nat) (F : Nat → Int) (v : Value)
    (hp : tmps.getD p undef = .pointer (some ⟨g, 0, none⟩)) (hv : tmps.getD u undef = v) (hg : w.heap[g]? = some (.cells (tcells n F) 46 (0, 0))) :
    (results fn tmps).run Tryd.prog w = .ok (.tuple #[.agg (tcells n F), v]) w := by
  subst hv
  rw [results_cell_tmp h tmps Tryd.prog w, hp]
  simp only [asAddr, Sem.run_pure, Result.andThen]
  rw [run_loadVar_row w g 46 46 (tcells n F) (0, 0) _ hg Tryd.underlying46 rfl (size_tcells n F)]

theorem run_alloc_table (w : World) : (Instr.alloc 46 true (.tuple #[])).run Tryd.prog w = .ok (.pointer (some ⟨w.heap.size, 0, none⟩)) (w.alloc (.cells (tcells 0 fun _ => 0) 46)) := by
  have hz : ∀ w, (zeroValue 46).run Tryd.prog w = .ok (.agg (tcells 0 fun _ => 0)) w := fun _ => by kernel_rfl
  unfold Instr.alloc
  simp only [Sem.run_bind, hz, Result.andThen, newVar]
  rfl
theorem alloc_table {ops : Array Oper} {rest : List Oper} {o : Oper} {a : Act} {w : World} {Q : Exit → Act → World → Prop} (hgd : o.guard = none) (ho : o.op = .alloc 46)
    (h : wpList Tryd.prog ops Q rest (a.put o.dst (.pointer (some ⟨w.heap.size, 0, none⟩))) (w.alloc (.cells (tcells 0 fun _ => 0) 46))) : wpList Tryd.prog ops Q (o :: rest) a w := by
  refine wpList_plain hgd fun K hK => ?_
  unfold Oper.wp
  simp only [ho, execOp, Sem.run_bind, run_alloc_table, Result.andThen_ok, Sem.run_pure]
  exact hK _ _ h
theorem build_table {ops : Array Oper} {rest : List Oper} {o : Oper} {a : Act} {w : World} {Q : Exit → Act → World → Prop} (hgd : o.guard = none) (x : Operand) (ho : o.op = .build 46 #[(0, x)])
    (n : Nat) (hx : a.eval x = .int .i64 (n : Int))
    (h : wpList Tryd.prog ops Q rest (a.put o.dst (.agg (tcells n fun _ => 0))) w) : wpList Tryd.prog ops Q (o :: rest) a w := by
  have hb : Tryd.prog.built 46 [(0, .int .i64 (n : Int))] = some (tcells n fun _ => 0) := by kernel_rfl
  have hr := run_build (P := Tryd.prog) w 46 #[(0, .int .i64 (n : Int))] _ hb
  refine wpList_plain hgd fun K hK => ?_
  unfold Oper.wp
  simp only [ho, execOp, List.map_toArray, List.map_cons, List.map_nil, hx, Sem.run_bind, hr, Result.andThen_ok, Sem.run_pure]
  exact hK _ _ h
theorem build_table0 {ops : Array Oper} {rest : List Oper} {o : Oper} {a : Act} {w : World} {Q : Exit → Act → World → Prop} (hgd : o.guard = none) (ho : o.op = .build 46 #[])
    (h : wpList Tryd.prog ops Q rest (a.put o.dst (.agg (tcells 0 fun _ => 0))) w) : wpList Tryd.prog ops Q (o :: rest) a w := by
  have hb : Tryd.prog.built 46 [] = some (tcells 0 fun _ => 0) := by kernel_rfl
  have hr := run_build (P := Tryd.prog) w 46 #[] _ hb
  refine wpList_plain hgd fun K hK => ?_
  unfold Oper.wp
  simp only [ho, execOp, List.map_toArray, List.map_nil, Sem.run_bind, hr, Result.andThen_ok, Sem.run_pure]
  exact hK _ _ h

end Go.Proofs.YtjijkgmeddeihaaDoor
