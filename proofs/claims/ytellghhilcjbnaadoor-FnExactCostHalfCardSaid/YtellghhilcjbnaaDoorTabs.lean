/-
  Tabs: Tables Flat Wholes CostIn AreWithin CostsFrom CInSize.
-/
import Derived.Test.YtellghhilcjbnaaDoorCore1
import Derived.Deep.WholeRow
import Derived.Laws.Tables
import Derived.Deep.QuietTactic
import Derived.BigQuiet
import Derived.Deep.RegionLaw
import Derived.Outline
import Derived.Laws.CopyOwn
/-
  TABLES AS VALUES: thirty-seven cells: the number of rows and six times six numbers. The cells are kept behind a name (tcells), so that a walk carries them whole.
-/
namespace Go.Proofs.YtellghhilcjbnaaDoor
set_option linter.unusedVariables false
set_option linter.unusedSimpArgs false
open Go.RowKit

def tcells (n : Nat) (F : Nat → Int) : Array Value := #[.int .i64 (n : Int), .int .i64 (F 0), .int .i64 (F 1), .int .i64 (F 2), .int .i64 (F 3), .int .i64 (F 4), .int .i64 (F 5), .int .i64 (F 6), .int .i64 (F 7), .int .i64 (F 8), .int .i64 (F 9), .int .i64 (F 10), .int .i64 (F 11), .int .i64 (F 12), .int .i64 (F 13), .int .i64 (F 14), .int .i64 (F 15), .int .i64 (F 16), .int .i64 (F 17), .int .i64 (F 18), .int .i64 (F 19), .int .i64 (F 20), .int .i64 (F 21), .int .i64 (F 22), .int .i64 (F 23), .int .i64 (F 24), .int .i64 (F 25), .int .i64 (F 26), .int .i64 (F 27), .int .i64 (F 28), .int .i64 (F 29), .int .i64 (F 30), .int .i64 (F 31), .int .i64 (F 32), .int .i64 (F 33), .int .i64 (F 34), .int .i64 (F 35)]
def updI (F : Nat → Int) (i : Nat) (x : Int) : Nat → Int := fun j => if j = i then x else F j
theorem tcells_size (n : Nat) (F : Nat → Int) : (tcells n F).size = 37 := rfl
theorem tcells_zero (n : Nat) (F : Nat → Int) : (tcells n F)[0]? = some (.int .i64 (n : Int)) := rfl
theorem tcells_at (n : Nat) (F : Nat → Int) (i : Nat) (h : i < 36) : (tcells n F)[1 + i]? = some (.int .i64 (F i)) := by
  match i, h with
  | 0, _ => rfl
  | 1, _ => rfl
  | 2, _ => rfl
  | 3, _ => rfl
  | 4, _ => rfl
  | 5, _ => rfl
  | 6, _ => rfl
  | 7, _ => rfl
  | 8, _ => rfl
  | 9, _ => rfl
  | 10, _ => rfl
  | 11, _ => rfl
  | 12, _ => rfl
  | 13, _ => rfl
  | 14, _ => rfl
  | 15, _ => rfl
  | 16, _ => rfl
  | 17, _ => rfl
  | 18, _ => rfl
  | 19, _ => rfl
  | 20, _ => rfl
  | 21, _ => rfl
  | 22, _ => rfl
  | 23, _ => rfl
  | 24, _ => rfl
  | 25, _ => rfl
  | 26, _ => rfl
  | 27, _ => rfl
  | 28, _ => rfl
  | 29, _ => rfl
  | 30, _ => rfl
  | 31, _ => rfl
  | 32, _ => rfl
  | 33, _ => rfl
  | 34, _ => rfl
  | 35, _ => rfl
  | _ + 36, h => exact absurd h (by omega)
theorem tcells_one (n : Nat) (F : Nat → Int) : (tcells n F).all (·.oneCell') = true := by simp [tcells, Value.oneCell']
theorem tcells_set (n : Nat) (F : Nat → Int) (i : Nat) (x : Int) (h : i < 36) : (tcells n F).setIfInBounds (1 + i) (.int .i64 x) = tcells n (updI F i x) := by
  match i, h with
  | 0, _ => rfl
  | 1, _ => rfl
  | 2, _ => rfl
  | 3, _ => rfl
  | 4, _ => rfl
  | 5, _ => rfl
  | 6, _ => rfl
  | 7, _ => rfl
  | 8, _ => rfl
  | 9, _ => rfl
  | 10, _ => rfl
  | 11, _ => rfl
  | 12, _ => rfl
  | 13, _ => rfl
  | 14, _ => rfl
  | 15, _ => rfl
  | 16, _ => rfl
  | 17, _ => rfl
  | 18, _ => rfl
  | 19, _ => rfl
  | 20, _ => rfl
  | 21, _ => rfl
  | 22, _ => rfl
  | 23, _ => rfl
  | 24, _ => rfl
  | 25, _ => rfl
  | 26, _ => rfl
  | 27, _ => rfl
  | 28, _ => rfl
  | 29, _ => rfl
  | 30, _ => rfl
  | 31, _ => rfl
  | 32, _ => rfl
  | 33, _ => rfl
  | 34, _ => rfl
  | 35, _ => rfl
  | _ + 36, h => exact absurd h (by omega)
theorem tcells_new (n : Nat) : (#[.int .i64 (n : Int), .int .i64 0, .int .i64 0, .int .i64 0, .int .i64 0, .int .i64 0, .int .i64 0, .int .i64 0, .int .i64 0, .int .i64 0, .int .i64 0, .int .i64 0, .int .i64 0, .int .i64 0, .int .i64 0, .int .i64 0, .int .i64 0, .int .i64 0, .int .i64 0, .int .i64 0, .int .i64 0, .int .i64 0, .int .i64 0, .int .i64 0, .int .i64 0, .int .i64 0, .int .i64 0, .int .i64 0, .int .i64 0, .int .i64 0, .int .i64 0, .int .i64 0, .int .i64 0, .int .i64 0, .int .i64 0, .int .i64 0, .int .i64 0] : Array Value) = tcells n (fun _ => 0) := rfl
theorem tcells_zeros : (#[.int .i64 0, .int .i64 0, .int .i64 0, .int .i64 0, .int .i64 0, .int .i64 0, .int .i64 0, .int .i64 0, .int .i64 0, .int .i64 0, .int .i64 0, .int .i64 0, .int .i64 0, .int .i64 0, .int .i64 0, .int .i64 0, .int .i64 0, .int .i64 0, .int .i64 0, .int .i64 0, .int .i64 0, .int .i64 0, .int .i64 0, .int .i64 0, .int .i64 0, .int .i64 0, .int .i64 0, .int .i64 0, .int .i64 0, .int .i64 0, .int .i64 0, .int .i64 0, .int .i64 0, .int .i64 0, .int .i64 0, .int .i64 0, .int .i64 0] : Array Value) = tcells 0 (fun _ => 0) := rfl
theorem tcells_congr {n : Nat} {F G : Nat → Int} (h : ∀ i, i < 36 → F i = G i) : tcells n F = tcells n G := by
  unfold tcells
  rw [h 0 (by decide), h 1 (by decide), h 2 (by decide), h 3 (by decide), h 4 (by decide), h 5 (by decide), h 6 (by decide), h 7 (by decide), h 8 (by decide), h 9 (by decide), h 10 (by decide), h 11 (by decide), h 12 (by decide), h 13 (by decide), h 14 (by decide), h 15 (by decide), h 16 (by decide), h 17 (by decide), h 18 (by decide), h 19 (by decide), h 20 (by decide), h 21 (by decide), h 22 (by decide), h 23 (by decide), h 24 (by decide), h 25 (by decide), h 26 (by decide), h 27 (by decide), h 28 (by decide), h 29 (by decide), h 30 (by decide), h 31 (by decide), h 32 (by decide), h 33 (by decide), h 34 (by decide), h 35 (by decide)]

theorem sizeTB : (Tryd.prog.info? 47).map (·.size) = some 37 := by kernel_rfl
theorem size_tcells (n : Nat) (F : Nat → Int) : (Tryd.prog.info? 47).map (·.size) = some (tcells n F).size := by rw [tcells_size]; exact sizeTB

/-- The cells of a table that lies in a block. -/
theorem table_cells {w : World} {g n : Nat} {F : Nat → Int} (hg : w.heap[g]? = some (.cells (tcells n F) 47 (0, 0))) :
    w.cell? ⟨g, 0, none⟩ = some (.int .i64 (n : Int)) ∧ (∀ i, i < 36 → w.cell? ⟨g, 1 + i, none⟩ = some (.int .i64 (F i))) ∧ (∀ i, w.frozen? ⟨g, i, none⟩ = false) ∧ g < w.heap.size :=
  ⟨by rw [cell_of_row _ _ _ _ _ _ hg]; rfl, fun i hi => by rw [cell_of_row _ _ _ _ _ _ hg]; exact tcells_at n F i hi, fun i => frozen_of_row w g i _ _ hg, (Array.getElem?_eq_some_iff.1 hg).1⟩
theorem table_stored {w : World} {g n : Nat} {F : Nat → Int} (i : Nat) (x : Int) (hi : i < 36) (hg : w.heap[g]? = some (.cells (tcells n F) 47 (0, 0))) :
    (w.setCell ⟨g, 1 + i, none⟩ (.int .i64 x)).heap[g]? = some (.cells (tcells n (updI F i x)) 47 (0, 0)) := by
  rw [heap_setCell_same w g (1 + i) _ _ _ hg, tcells_set n F i x hi]

theorem load_table {ops : Array Oper} {rest : List Oper} {o : Oper} {a : Act} {w : World} {Q : Exit → Act → World → Prop} (hgd : o.guard = none) (x : Operand) (ho : o.op = .load 47 x)
    (g : Nat) (n : Nat) (F : Nat → Int) (hx : a.eval x = .pointer (some ⟨g, 0, none⟩)) (hg : w.heap[g]? = some (.cells (tcells n F) 47 (0, 0)))
    (h : wpList Tryd.prog ops Q rest (a.put o.dst (.agg (tcells n F))) w) : wpList Tryd.prog ops Q (o :: rest) a w :=
  wpList_load_row hgd 47 x ho g hx 47 (tcells n F) (0, 0) _ hg Tryd.underlying47 rfl (size_tcells n F) h
/-- The same, behind a guard that is met. -/
theorem load_table_g {ops : Array Oper} {rest : List Oper} {o : Oper} {a : Act} {w : World} {Q : Exit → Act → World → Prop} (hw : Region.wanted o (yielded ops a.tmps) = true) (x : Operand) (ho : o.op = .load 47 x)
    (g : Nat) (n : Nat) (F : Nat → Int) (hx : a.eval x = .pointer (some ⟨g, 0, none⟩)) (hg : w.heap[g]? = some (.cells (tcells n F) 47 (0, 0)))
    (h : wpList Tryd.prog ops Q rest (a.put o.dst (.agg (tcells n F))) w) : wpList Tryd.prog ops Q (o :: rest) a w := by
  have hr : (Instr.loadAt 47 (.pointer (some ⟨g, 0, none⟩))).run Tryd.prog w = .ok (.agg (tcells n F)) w := by
    simp only [Instr.loadAt, Instr.sureAddr, Sem.run_bind, Sem.run_pure, Result.andThen_ok, run_loadVar_row w g 47 47 (tcells n F) (0, 0) _ hg Tryd.underlying47 rfl (size_tcells n F)]
  refine wpList_step fun K hK => ?_
  rw [if_pos hw]
  unfold Oper.wp
  simp only [ho, execOp, hx, Sem.run_bind, hr, Result.andThen_ok, Sem.run_pure]
  exact hK _ _ h
theorem store_table {ops : Array Oper} {rest : List Oper} {o : Oper} {a : Act} {w : World} {Q : Exit → Act → World → Prop} (hgd : o.guard = none) (x y : Operand) (ho : o.op = .store 47 x y)
    (g : Nat) (n : Nat) (F : Nat → Int) (hx : a.eval x = .pointer (some ⟨g, 0, none⟩)) (hy : a.eval y = .agg (tcells n F)) (n0 : Nat) (F0 : Nat → Int)
    (hg : w.heap[g]? = some (.cells (tcells n0 F0) 47 (0, 0)))
    (h : wpList Tryd.prog ops Q rest (a.put o.dst undef) (w.setRow g (tcells n F))) : wpList Tryd.prog ops Q (o :: rest) a w :=
  wpList_store_row hgd 47 x y ho g (tcells n F) hx hy 47 (tcells n0 F0) hg (size_tcells n F) rfl (tcells_one n F) h
theorem heap_setRowT {w : World} {g : Nat} {cs c' : Array Value} {t : TypeId} {fr : Nat × Nat} (h : w.heap[g]? = some (.cells cs t fr)) : (w.setRow g c').heap[g]? = some (.cells c' t fr) := by
  have hlt := (Array.getElem?_eq_some_iff.1 h).1
  have h' : w.heap[g] = .cells cs t fr := by simpa [Array.getElem?_eq_getElem hlt] using h
  show (w.heap.modify g _)[g]? = _
  rw [Array.getElem?_eq_getElem (by simpa using hlt), Array.getElem_modify_self, h']
theorem heap_setRowT_other (w : World) (g k : Nat) (c' : Array Value) (h : k ≠ g) : (w.setRow g c').heap[k]? = w.heap[k]? := by
  show (w.heap.modify g _)[k]? = _
  rw [Array.getElem?_modify, if_neg (by omega)]
theorem below_setRowT {B : Nat} {a w : World} (h : Below B a w) {g : Nat} (hg : B ≤ g) (c : Array Value) : Below B a (w.setRow g c) :=
  h.trans ⟨rfl, rfl, rfl, by simp [World.setRow], fun k hk => heap_setRowT_other w g k c (by omega)⟩
/-- A whole table into a block that was made last, with zeros. -/
theorem store_table_new {ops : Array Oper} {rest : List Oper} {o : Oper} {a : Act} {w : World} {Q : Exit → Act → World → Prop} (hgd : o.guard = none) (x y : Operand) (ho : o.op = .store 47 x y)
    (n : Nat) (F : Nat → Int) (b : Nat) (hb : w.heap.size = b) (hx : a.eval x = .pointer (some ⟨b, 0, none⟩)) (hy : a.eval y = .agg (tcells n F))
    (h : wpList Tryd.prog ops Q rest (a.put o.dst undef) (w.alloc (.cells (tcells n F) 47))) :
    wpList Tryd.prog ops Q (o :: rest) a (w.alloc (.cells #[.int .i64 0, .int .i64 0, .int .i64 0, .int .i64 0, .int .i64 0, .int .i64 0, .int .i64 0, .int .i64 0, .int .i64 0, .int .i64 0, .int .i64 0, .int .i64 0, .int .i64 0, .int .i64 0, .int .i64 0, .int .i64 0, .int .i64 0, .int .i64 0, .int .i64 0, .int .i64 0, .int .i64 0, .int .i64 0, .int .i64 0, .int .i64 0, .int .i64 0, .int .i64 0, .int .i64 0, .int .i64 0, .int .i64 0, .int .i64 0, .int .i64 0, .int .i64 0, .int .i64 0, .int .i64 0, .int .i64 0, .int .i64 0, .int .i64 0] 47)) := by
  subst hb
  rw [tcells_zeros]
  refine store_table hgd x y ho w.heap.size n F hx hy 0 (fun _ => 0) (World.alloc_heap_new w _) ?_
  rw [World.setRow_alloc_new]
  exact h
/-- A whole table into a block that was made last, in its name's form. -/
theorem store_table_last {ops : Array Oper} {rest : List Oper} {o : Oper} {a : Act} {w : World} {Q : Exit → Act → World → Prop} (hgd : o.guard = none) (x y : Operand) (ho : o.op = .store 47 x y)
    (n : Nat) (F : Nat → Int) (b : Nat) (hb : w.heap.size = b) (hx : a.eval x = .pointer (some ⟨b, 0, none⟩)) (hy : a.eval y = .agg (tcells n F))
    (h : wpList Tryd.prog ops Q rest (a.put o.dst undef) (w.alloc (.cells (tcells n F) 47))) :
    wpList Tryd.prog ops Q (o :: rest) a (w.alloc (.cells (tcells 0 fun _ => 0) 47)) := by
  subst hb
  refine store_table hgd x y ho w.heap.size n F hx hy 0 (fun _ => 0) (World.alloc_heap_new w _) ?_
  rw [World.setRow_alloc_new]
  exact h
theorem ret_table2 {fn : Func} {p u : Tmp} (h : fn.results = #[.cell p 47, .tmp u]) (tmps : Array Value) (w : World) (g n : Nat) (F : Nat → Int) (v : Value)
    (hp : tmps.getD p undef = .pointer (some ⟨g, 0, none⟩)) (hv : tmps.getD u undef = v) (hg : w.heap[g]? = some (.cells (tcells n F) 47 (0, 0))) :
    (results fn tmps).run Tryd.prog w = .ok (.tuple #[.agg (tcells n F), v]) w := by
  subst hv
  rw [results_cell_tmp h tmps Tryd.prog w, hp]
  simp only [asAddr, Sem.run_pure, Result.andThen]
  rw [run_loadVar_row w g 47 47 (tcells n F) (0, 0) _ hg Tryd.underlying47 rfl (size_tcells n F)]

theorem run_alloc_table (w : World) : (Instr.alloc 47 true (.tuple #[])).run Tryd.prog w = .ok (.pointer (some ⟨w.heap.size, 0, none⟩)) (w.alloc (.cells (tcells 0 fun _ => 0) 47)) := by
  have hz : ∀ w, (zeroValue 47).run Tryd.prog w = .ok (.agg (tcells 0 fun _ => 0)) w := fun _ => by kernel_rfl
  unfold Instr.alloc
  simp only [Sem.run_bind, hz, Result.andThen, newVar]
  rfl
theorem alloc_table {ops : Array Oper} {rest : List Oper} {o : Oper} {a : Act} {w : World} {Q : Exit → Act → World → Prop} (hgd : o.guard = none) (ho : o.op = .alloc 47)
    (h : wpList Tryd.prog ops Q rest (a.put o.dst (.pointer (some ⟨w.heap.size, 0, none⟩))) (w.alloc (.cells (tcells 0 fun _ => 0) 47))) : wpList Tryd.prog ops Q (o :: rest) a w := by
  refine wpList_plain hgd fun K hK => ?_
  unfold Oper.wp
  simp only [ho, execOp, Sem.run_bind, run_alloc_table, Result.andThen_ok, Sem.run_pure]
  exact hK _ _ h
theorem build_table {ops : Array Oper} {rest : List Oper} {o : Oper} {a : Act} {w : World} {Q : Exit → Act → World → Prop} (hgd : o.guard = none) (x : Operand) (ho : o.op = .build 47 #[(0, x)])
    (n : Nat) (hx : a.eval x = .int .i64 (n : Int))
    (h : wpList Tryd.prog ops Q rest (a.put o.dst (.agg (tcells n fun _ => 0))) w) : wpList Tryd.prog ops Q (o :: rest) a w := by
  have hb : Tryd.prog.built 47 [(0, .int .i64 (n : Int))] = some (tcells n fun _ => 0) := by kernel_rfl
  have hr := run_build (P := Tryd.prog) w 47 #[(0, .int .i64 (n : Int))] _ hb
  refine wpList_plain hgd fun K hK => ?_
  unfold Oper.wp
  simp only [ho, execOp, List.map_toArray, List.map_cons, List.map_nil, hx, Sem.run_bind, hr, Result.andThen_ok, Sem.run_pure]
  exact hK _ _ h
theorem build_table0 {ops : Array Oper} {rest : List Oper} {o : Oper} {a : Act} {w : World} {Q : Exit → Act → World → Prop} (hgd : o.guard = none) (ho : o.op = .build 47 #[])
    (h : wpList Tryd.prog ops Q rest (a.put o.dst (.agg (tcells 0 fun _ => 0))) w) : wpList Tryd.prog ops Q (o :: rest) a w := by
  have hb : Tryd.prog.built 47 [] = some (tcells 0 fun _ => 0) := by kernel_rfl
  have hr := run_build (P := Tryd.prog) w 47 #[] _ hb
  refine wpList_plain hgd fun K hK => ?_
  unfold Oper.wp
  simp only [ho, execOp, List.map_toArray, List.map_nil, Sem.run_bind, hr, Result.andThen_ok, Sem.run_pure]
  exact hK _ _ h

end Go.Proofs.YtellghhilcjbnaaDoor

/-
  THE NUMBERS OF A TABLE, row by row, on lists.
-/
namespace Go.Proofs.YtellghhilcjbnaaDoor
set_option linter.unusedVariables false
set_option linter.unusedSimpArgs false
open Go.RowKit

/-- The numbers of a table, row by row. -/
def flat (xss : List (List Int)) (i : Nat) : Int := (xss.getD (i / 6) []).getD (i % 6) 0
/-- What was read when j numbers of row k were. -/
def partT (xss : List (List Int)) (k j : Nat) : Nat → Int := fun i => if i / 6 < k ∨ (i / 6 = k ∧ i % 6 < j) then flat xss i else 0
theorem partT_step (xss : List (List Int)) {k j : Nat} (hj : j < 6) : updI (partT xss k j) (6 * k + j) (flat xss (6 * k + j)) = partT xss k (j + 1) := by
  funext i
  unfold updI partT
  by_cases h : i = 6 * k + j
  · subst h
    rw [if_pos rfl, if_pos (by right; omega)]
  · rw [if_neg h]
    have : (i / 6 < k ∨ (i / 6 = k ∧ i % 6 < j)) ↔ (i / 6 < k ∨ (i / 6 = k ∧ i % 6 < j + 1)) := by omega
    simp only [this]
theorem partT_row (xss : List (List Int)) {k j : Nat} (hl : (xss.getD k []).length ≤ j) : partT xss k j = partT xss (k + 1) 0 := by
  funext i
  unfold partT
  by_cases h : i / 6 < k + 1
  · rw [if_pos (show i / 6 < k + 1 ∨ (i / 6 = k + 1 ∧ i % 6 < 0) from .inl h)]
    by_cases h2 : i / 6 < k ∨ (i / 6 = k ∧ i % 6 < j)
    · rw [if_pos h2]
    · rw [if_neg h2]
      have e : i / 6 = k := by omega
      unfold flat
      rw [e, List.getD_eq_getElem?_getD, List.getElem?_eq_none (by omega)]; rfl
  · rw [if_neg (by omega), if_neg (by omega)]
theorem partT_zero (xss : List (List Int)) : partT xss 0 0 = fun _ => 0 := by
  funext i; unfold partT; rw [if_neg (by omega)]
theorem partT_full (xss : List (List Int)) : partT xss xss.length 0 = flat xss := by
  funext i
  unfold partT
  by_cases h : i / 6 < xss.length
  · rw [if_pos (.inl h)]
  · rw [if_neg (by omega)]
    unfold flat
    have : xss.getD (i / 6) [] = [] := by rw [List.getD_eq_getElem?_getD, List.getElem?_eq_none (by omega)]; rfl
    rw [this]; rfl
theorem flat_at (xss : List (List Int)) {k j : Nat} (hk : k < xss.length) (hj : j < xss[k].length) (h6 : j < 6) : flat xss (6 * k + j) = xss[k][j] := by
  unfold flat
  have e1 : (6 * k + j) / 6 = k := by omega
  have e2 : (6 * k + j) % 6 = j := by omega
  rw [e1, e2]
  simp [List.getD, List.getElem?_eq_getElem hk, List.getElem?_eq_getElem hj]

end Go.Proofs.YtellghhilcjbnaaDoor

/-
  COSTS AS VALUES: a table in a struct of its own type.
-/
namespace Go.Proofs.YtellghhilcjbnaaDoor
set_option linter.unusedVariables false
set_option linter.unusedSimpArgs false
open Go.RowKit

theorem sizeWC : (Tryd.prog.info? 49).map (·.size) = some 37 := by kernel_rfl
theorem size_wcells (n : Nat) (F : Nat → Int) : (Tryd.prog.info? 49).map (·.size) = some (tcells n F).size := by rw [tcells_size]; exact sizeWC

/-- The cells of a table that lies in a block. -/
theorem whole_cells {w : World} {g n : Nat} {F : Nat → Int} (hg : w.heap[g]? = some (.cells (tcells n F) 49 (0, 0))) :
    w.cell? ⟨g, 0, none⟩ = some (.int .i64 (n : Int)) ∧ (∀ i, i < 36 → w.cell? ⟨g, 1 + i, none⟩ = some (.int .i64 (F i))) ∧ (∀ i, w.frozen? ⟨g, i, none⟩ = false) ∧ g < w.heap.size :=
  ⟨by rw [cell_of_row _ _ _ _ _ _ hg]; rfl, fun i hi => by rw [cell_of_row _ _ _ _ _ _ hg]; exact tcells_at n F i hi, fun i => frozen_of_row w g i _ _ hg, (Array.getElem?_eq_some_iff.1 hg).1⟩
theorem whole_stored {w : World} {g n : Nat} {F : Nat → Int} (i : Nat) (x : Int) (hi : i < 36) (hg : w.heap[g]? = some (.cells (tcells n F) 49 (0, 0))) :
    (w.setCell ⟨g, 1 + i, none⟩ (.int .i64 x)).heap[g]? = some (.cells (tcells n (updI F i x)) 49 (0, 0)) := by
  rw [heap_setCell_same w g (1 + i) _ _ _ hg, tcells_set n F i x hi]

theorem load_whole {ops : Array Oper} {rest : List Oper} {o : Oper} {a : Act} {w : World} {Q : Exit → Act → World → Prop} (hgd : o.guard = none) (x : Operand) (ho : o.op = .load 49 x)
    (g : Nat) (n : Nat) (F : Nat → Int) (hx : a.eval x = .pointer (some ⟨g, 0, none⟩)) (hg : w.heap[g]? = some (.cells (tcells n F) 49 (0, 0)))
    (h : wpList Tryd.prog ops Q rest (a.put o.dst (.agg (tcells n F))) w) : wpList Tryd.prog ops Q (o :: rest) a w :=
  wpList_load_row hgd 49 x ho g hx 49 (tcells n F) (0, 0) _ hg Tryd.underlying49 rfl (size_wcells n F) h
/-- The same, behind a guard that is met. -/
theorem load_whole_g {ops : Array Oper} {rest : List Oper} {o : Oper} {a : Act} {w : World} {Q : Exit → Act → World → Prop} (hw : Region.wanted o (yielded ops a.tmps) = true) (x : Operand) (ho : o.op = .load 49 x)
    (g : Nat) (n : Nat) (F : Nat → Int) (hx : a.eval x = .pointer (some ⟨g, 0, none⟩)) (hg : w.heap[g]? = some (.cells (tcells n F) 49 (0, 0)))
    (h : wpList Tryd.prog ops Q rest (a.put o.dst (.agg (tcells n F))) w) : wpList Tryd.prog ops Q (o :: rest) a w := by
  have hr : (Instr.loadAt 49 (.pointer (some ⟨g, 0, none⟩))).run Tryd.prog w = .ok (.agg (tcells n F)) w := by
    simp only [Instr.loadAt, Instr.sureAddr, Sem.run_bind, Sem.run_pure, Result.andThen_ok, run_loadVar_row w g 49 49 (tcells n F) (0, 0) _ hg Tryd.underlying49 rfl (size_wcells n F)]
  refine wpList_step fun K hK => ?_
  rw [if_pos hw]
  unfold Oper.wp
  simp only [ho, execOp, hx, Sem.run_bind, hr, Result.andThen_ok, Sem.run_pure]
  exact hK _ _ h
theorem store_whole {ops : Array Oper} {rest : List Oper} {o : Oper} {a : Act} {w : World} {Q : Exit → Act → World → Prop} (hgd : o.guard = none) (x y : Operand) (ho : o.op = .store 49 x y)
    (g : Nat) (n : Nat) (F : Nat → Int) (hx : a.eval x = .pointer (some ⟨g, 0, none⟩)) (hy : a.eval y = .agg (tcells n F)) (n0 : Nat) (F0 : Nat → Int)
    (hg : w.heap[g]? = some (.cells (tcells n0 F0) 49 (0, 0)))
    (h : wpList Tryd.prog ops Q rest (a.put o.dst undef) (w.setRow g (tcells n F))) : wpList Tryd.prog ops Q (o :: rest) a w :=
  wpList_store_row hgd 49 x y ho g (tcells n F) hx hy 49 (tcells n0 F0) hg (size_wcells n F) rfl (tcells_one n F) h
/-- A whole table into a block that was made last, with zeros. -/
theorem store_whole_new {ops : Array Oper} {rest : List Oper} {o : Oper} {a : Act} {w : World} {Q : Exit → Act → World → Prop} (hgd : o.guard = none) (x y : Operand) (ho : o.op = .store 49 x y)
    (n : Nat) (F : Nat → Int) (b : Nat) (hb : w.heap.size = b) (hx : a.eval x = .pointer (some ⟨b, 0, none⟩)) (hy : a.eval y = .agg (tcells n F))
    (h : wpList Tryd.prog ops Q rest (a.put o.dst undef) (w.alloc (.cells (tcells n F) 49))) :
    wpList Tryd.prog ops Q (o :: rest) a (w.alloc (.cells #[.int .i64 0, .int .i64 0, .int .i64 0, .int .i64 0, .int .i64 0, .int .i64 0, .int .i64 0, .int .i64 0, .int .i64 0, .int .i64 0, .int .i64 0, .int .i64 0, .int .i64 0, .int .i64 0, .int .i64 0, .int .i64 0, .int .i64 0, .int .i64 0, .int .i64 0, .int .i64 0, .int .i64 0, .int .i64 0, .int .i64 0, .int .i64 0, .int .i64 0, .int .i64 0, .int .i64 0, .int .i64 0, .int .i64 0, .int .i64 0, .int .i64 0, .int .i64 0, .int .i64 0, .int .i64 0, .int .i64 0, .int .i64 0, .int .i64 0] 49)) := by
  subst hb
  rw [tcells_zeros]
  refine store_whole hgd x y ho w.heap.size n F hx hy 0 (fun _ => 0) (World.alloc_heap_new w _) ?_
  rw [World.setRow_alloc_new]
  exact h
/-- A whole table into a block that was made last, in its name's form. -/
theorem store_whole_last {ops : Array Oper} {rest : List Oper} {o : Oper} {a : Act} {w : World} {Q : Exit → Act → World → Prop} (hgd : o.guard = none) (x y : Operand) (ho : o.op = .store 49 x y)
    (n : Nat) (F : Nat → Int) (b : Nat) (hb : w.heap.size = b) (hx : a.eval x = .pointer (some ⟨b, 0, none⟩)) (hy : a.eval y = .agg (tcells n F))
    (h : wpList Tryd.prog ops Q rest (a.put o.dst undef) (w.alloc (.cells (tcells n F) 49))) :
    wpList Tryd.prog ops Q (o :: rest) a (w.alloc (.cells (tcells 0 fun _ => 0) 49)) := by
  subst hb
  refine store_whole hgd x y ho w.heap.size n F hx hy 0 (fun _ => 0) (World.alloc_heap_new w _) ?_
  rw [World.setRow_alloc_new]
  exact h
theorem ret_whole2 {fn : Func} {p u : Tmp} (h : fn.results = #[.cell p 49, .tmp u]) (tmps : Array Value) (w : World) (g n : Nat) (F : Nat → Int) (v : Value)
    (hp : tmps.getD p undef = .pointer (some ⟨g, 0, none⟩)) (hv : tmps.getD u undef = v) (hg : w.heap[g]? = some (.cells (tcells n F) 49 (0, 0))) :
    (results fn tmps).run Tryd.prog w = .ok (.tuple #[.agg (tcells n F), v]) w := by
  subst hv
  rw [results_cell_tmp h tmps Tryd.prog w, hp]
  simp only [asAddr, Sem.run_pure, Result.andThen]
  rw [run_loadVar_row w g 49 49 (tcells n F) (0, 0) _ hg Tryd.underlying49 rfl (size_wcells n F)]

theorem run_alloc_whole (w : World) : (Instr.alloc 49 true (.tuple #[])).run Tryd.prog w = .ok (.pointer (some ⟨w.heap.size, 0, none⟩)) (w.alloc (.cells (tcells 0 fun _ => 0) 49)) := by
  have hz : ∀ w, (zeroValue 49).run Tryd.prog w = .ok (.agg (tcells 0 fun _ => 0)) w := fun _ => by kernel_rfl
  unfold Instr.alloc
  simp only [Sem.run_bind, hz, Result.andThen, newVar]
  rfl
theorem alloc_whole {ops : Array Oper} {rest : List Oper} {o : Oper} {a : Act} {w : World} {Q : Exit → Act → World → Prop} (hgd : o.guard = none) (ho : o.op = .alloc 49)
    (h : wpList Tryd.prog ops Q rest (a.put o.dst (.pointer (some ⟨w.heap.size, 0, none⟩))) (w.alloc (.cells (tcells 0 fun _ => 0) 49))) : wpList Tryd.prog ops Q (o :: rest) a w := by
  refine wpList_plain hgd fun K hK => ?_
  unfold Oper.wp
  simp only [ho, execOp, Sem.run_bind, run_alloc_whole, Result.andThen_ok, Sem.run_pure]
  exact hK _ _ h
theorem build_whole {ops : Array Oper} {rest : List Oper} {o : Oper} {a : Act} {w : World} {Q : Exit → Act → World → Prop} (hgd : o.guard = none) (x : Operand) (ho : o.op = .build 49 #[(0, x)])
    (n : Nat) (F : Nat → Int) (hx : a.eval x = .agg (tcells n F))
    (h : wpList Tryd.prog ops Q rest (a.put o.dst (.agg (tcells n F))) w) : wpList Tryd.prog ops Q (o :: rest) a w := by
  have hb : Tryd.prog.built 49 [(0, .agg (tcells n F))] = some (tcells n F) := by kernel_rfl
  have hr := run_build (P := Tryd.prog) w 49 #[(0, .agg (tcells n F))] _ hb
  refine wpList_plain hgd fun K hK => ?_
  unfold Oper.wp
  simp only [ho, execOp, List.map_toArray, List.map_cons, List.map_nil, hx, Sem.run_bind, hr, Result.andThen_ok, Sem.run_pure]
  exact hK _ _ h
theorem build_whole0 {ops : Array Oper} {rest : List Oper} {o : Oper} {a : Act} {w : World} {Q : Exit → Act → World → Prop} (hgd : o.guard = none) (ho : o.op = .build 49 #[])
    (h : wpList Tryd.prog ops Q rest (a.put o.dst (.agg (tcells 0 fun _ => 0))) w) : wpList Tryd.prog ops Q (o :: rest) a w := by
  have hb : Tryd.prog.built 49 [] = some (tcells 0 fun _ => 0) := by kernel_rfl
  have hr := run_build (P := Tryd.prog) w 49 #[] _ hb
  refine wpList_plain hgd fun K hK => ?_
  unfold Oper.wp
  simp only [ho, execOp, List.map_toArray, List.map_nil, Sem.run_bind, hr, Result.andThen_ok, Sem.run_pure]
  exact hK _ _ h

end Go.Proofs.YtellghhilcjbnaaDoor

/-
  WHAT COSTS ARE: plain functions; the specification's CoscIn.
-/
namespace Go.Proofs.YtellghhilcjbnaaDoor
set_option linter.unusedVariables false
set_option linter.unusedSimpArgs false
open Go.RowKit

def numC (x : Int) : Bool := decide (-1000 ≤ x ∧ x ≤ 1000)
def rowC (n : Nat) (xs : List Int) : Bool := decide (xs.length = n) && xs.all numC
def cIn (xss : List (List Int)) : Bool := xss.all (rowC xss.length) && decide (1 ≤ xss.length ∧ xss.length ≤ 6)
theorem cIn_row {xss : List (List Int)} {k : Nat} (hk : k < xss.length) (h : rowC xss.length xss[k] = false) : cIn xss = false := by
  unfold cIn
  rw [Bool.and_eq_false_iff]
  left
  rw [Bool.eq_false_iff]
  intro hall
  rw [List.all_eq_true.1 hall _ (List.getElem_mem hk)] at h
  cases h
theorem rowC_len {n : Nat} {xs : List Int} (h : xs.length ≠ n) : rowC n xs = false := by unfold rowC; rw [decide_eq_false h]; rfl
theorem rowC_num {n : Nat} {xs : List Int} {j : Nat} (hj : j < xs.length) (h : numC xs[j] = false) : rowC n xs = false := by
  unfold rowC
  rw [Bool.and_eq_false_iff]
  right
  rw [Bool.eq_false_iff]
  intro hall
  rw [List.all_eq_true.1 hall _ (List.getElem_mem hj)] at h
  cases h
theorem rowC_yes {n : Nat} {xs : List Int} (h : xs.length = n) (hj : ∀ j (hj : j < xs.length), numC xs[j] = true) : rowC n xs = true := by
  unfold rowC
  rw [decide_eq_true h, Bool.true_and, List.all_eq_true]
  intro x hx
  obtain ⟨j, hj', rfl⟩ := List.getElem_of_mem hx
  exact hj j hj'
theorem cIn_yes {xss : List (List Int)} (h : ∀ k (hk : k < xss.length), rowC xss.length xss[k] = true) : cIn xss = decide (1 ≤ xss.length ∧ xss.length ≤ 6) := by
  unfold cIn
  have : xss.all (rowC xss.length) = true := by
    rw [List.all_eq_true]
    intro x hx
    obtain ⟨k, hk, rfl⟩ := List.getElem_of_mem hx
    exact h k hk
  rw [this, Bool.true_and]
theorem numC_no {x : Int} (h : numC x = false) : x < -1000 ∨ 1000 < x := by unfold numC at h; rw [decide_eq_false_iff_not] at h; omega
theorem numC_yes {x : Int} (h : numC x = true) : -1000 ≤ x ∧ x ≤ 1000 := by unfold numC at h; rw [decide_eq_true_iff] at h; exact h

theorem l6In_c (n low high : Int) (r : Bool) (h : decide (low ≤ n ∧ n ≤ high) = r) (w : World) :
    Calls Tryd.prog 43 #[.int .i64 n, .int .i64 low, .int .i64 high] w fun e w' => e = .returned (.bool r) ∧ w = w' :=
  (l6In_any n low high w).mono fun e w' h' => ⟨by rw [← h]; exact h'.1, h'.2⟩

set_option maxRecDepth 100000 in
set_option maxHeartbeats 2000000 in
theorem specCostIn_any (w : World) (v : Value) (xss : List (List Int)) (h : IntRows w v xss) :
    Calls Tryd.prog 26 #[v] w fun e w' => e = .returned (.bool (cIn xss)) ∧ ∃ n, w' = w.drewN n := by
  obtain ⟨A, cap, rfl, hm, hc⟩ := h.at
  have HC := Lib.hid hc
  clear hc h
  unfold maxLen at hm
  go_enter Tryd.func26, Tryd.ntmps26
  go_wp2
  go_loopw [3, 4] (fun i _ wr => ∃ m q : Nat, m ≤ xss.length ∧ i = .int .i64 m ∧ (∀ k (hk : k < xss.length), k < m → rowC xss.length xss[k] = true) ∧ wr = w.drewN q) (fun i _ _ => xss.length - (intOf i).toNat)
  case atStart => exact ⟨0, 0, by omega, rfl, fun k hk h => by omega, rfl⟩
  case round =>
    obtain ⟨m, q, hm1, rfl, hrows, rfl⟩ := hrel
    have HR := Lib.hid hrows
    clear hrows
    by_cases hlt : m < xss.length
    · obtain ⟨b, off, u, rfl, hcell, hints⟩ := HC.out m hlt
      obtain ⟨A2, cap2, rfl, hm2, hc2⟩ := hints
      have HC2 := Lib.hid hc2
      have hmi : (m : Int) < (xss.length : Int) := by omega
      clear hc2
      unfold maxLen at hm2
      by_cases hrl : xss[m].length = xss.length
      · have e1 : ((xss[m].length : Int) != (xss.length : Int)) = false := by simp [hrl]
        go_wp2
        go_loopw [4] (fun k wr => ∃ j q : Nat, j ≤ xss.length ∧ k = .int .i64 j ∧ (∀ c (hc : c < xss[m].length), c < j → numC xss[m][c] = true) ∧ wr = w.drewN q) (fun k _ => xss.length - (intOf k).toNat)
        case atStart => exact ⟨0, q, by omega, rfl, fun c hc h => by omega, rfl⟩
        case round =>
          obtain ⟨j, q2, hj, rfl, hn, rfl⟩ := hrel
          have HN := Lib.hid hn
          clear hn
          by_cases hjl : j < xss.length
          · obtain ⟨b2, off2, rfl, hcell2⟩ := HC2.out j (by omega)
            have hji : (j : Int) < (xss.length : Int) := by omega
            have hji2 : (j : Int) < (xss[m].length : Int) := by omega
            have hj0 : (0 : Int) ≤ (j : Int) := by omega
            have hjm : j < xss[m].length := by omega
            obtain ⟨x, hx⟩ : ∃ x, xss[m][j] = x := ⟨_, rfl⟩
            rw [hx] at hcell2
            have HX := Lib.hid hx
            clear hx
            cases hb : numC x with
            | true =>
              have HL := Lib.hid (fun W => l6In_c x (-1000) 1000 true hb W)
              have HB := Lib.hid hb
              clear hb
              go_wp2_with (go_at_call 43; refine (HL.out _).mono ?_; rintro e w' ⟨rfl, rfl⟩)
              go_roundw
              all_goals first
                | (refine ⟨j + 1, q2, by omega, by go_num, fun c hc h => ?_, rfl⟩; by_cases hcj : c = j; (· subst hcj; rw [HX.out]; exact HB.out); exact HN.out c hc (by omega))
                | (simp [intOf]; omega)
            | false =>
              have HL := Lib.hid (fun W => l6In_c x (-1000) 1000 false hb W)
              have hno : cIn xss = false := cIn_row hlt (rowC_num hjm (by rw [HX.out]; exact hb))
              have HNO := Lib.hid hno
              clear hb hno
              go_wp2_with (go_at_call 43; refine (HL.out _).mono ?_; rintro e w' ⟨rfl, rfl⟩)
              go_ret
              exact ⟨ret_bool HNO.out.symm, q2, rfl⟩
          · obtain rfl : j = xss.length := by omega
            have hrow : rowC xss.length xss[m] = true := rowC_yes hrl (fun c hc => HN.out c hc (by omega))
            have HROW := Lib.hid hrow
            clear hrow
            go_wp2
            go_roundw
            all_goals first
              | (refine ⟨m + 1, q2, by omega, by go_num, fun c hc h => ?_, rfl⟩; by_cases hcm : c = m; (· subst hcm; exact HROW.out); exact HR.out c hc (by omega))
              | (simp [intOf]; omega)
      · have e1 : ((xss[m].length : Int) != (xss.length : Int)) = true := by simp; omega
        have hno : cIn xss = false := cIn_row hlt (rowC_len hrl)
        have HNO := Lib.hid hno
        clear hno
        go_wp2
        go_ret
        exact ⟨ret_bool HNO.out.symm, q, rfl⟩
    · obtain rfl : m = xss.length := by omega
      have ht := cIn_yes (fun k hk => HR.out k hk hk)
      have hl := fun W => l6In_c (xss.length : Int) 1 6 (cIn xss) (by rw [ht, Bool.eq_iff_iff, decide_eq_true_iff, decide_eq_true_iff]; omega) W
      have HL := Lib.hid hl
      clear ht hl
      go_wp2_with fail
      refine (HL.out _).mono ?_
      rintro e w' ⟨rfl, rfl⟩
      go_wp2
      go_ret
      exact ⟨rfl, q, rfl⟩

end Go.Proofs.YtellghhilcjbnaaDoor

/-
  slices.IndexFunc, slices.ContainsFunc, impl.areWithin.
-/
namespace Go.Proofs.YtellghhilcjbnaaDoor
set_option linter.unusedVariables false
set_option linter.unusedSimpArgs false
open Go.RowKit

def inL (lim x : Int) : Bool := decide (-lim ≤ x ∧ x ≤ lim)

def GivesIf (w : World) (xs : List Int) (p : Int → Bool) (e : Ending) (w' : World) : Prop := ∃ r : Int, e = .returned (.int .i64 r) ∧ decide (0 ≤ r) = xs.any p ∧ w' = w

set_option maxRecDepth 100000 in
set_option maxHeartbeats 1000000 in
theorem indexFunc_any (w : World) (v : Value) (xs : List Int) (h : Ints w v xs) (K : FuncId) (caps : Array Value) (p : Int → Bool)
    (hE : ∀ args W, (callFunc K args).run Tryd.prog W = .ok (.enter K args) W)
    (hK : ∀ (j : Nat) (hj : j < xs.length), Calls Tryd.prog K (#[.int .i64 xs[j]] ++ caps) w fun e W' => e = .returned (.bool (p xs[j])) ∧ w = W') :
    Calls Tryd.prog 63 #[v, .func (.func K) #[] caps] w (GivesIf w xs p) := by
  obtain ⟨A, cap, rfl, hm, hc⟩ := h
  have HC := Lib.hid hc
  have HK := Lib.hid hK
  clear hc hK
  unfold maxLen at hm
  go_enter Tryd.func63, Tryd.ntmps63
  go_wp2
  go_loopw [5, 8] (fun _ i wr => ∃ k : Nat, k ≤ xs.length ∧ i = .int .i64 k ∧ (∀ j (hj : j < xs.length), j < k → p xs[j] = false) ∧ wr = w) (fun _ i _ => xs.length - (intOf i).toNat)
  case atStart => exact ⟨0, by omega, rfl, fun j hj h => by omega, rfl⟩
  case round =>
    obtain ⟨k, hk, rfl, hno, hwr⟩ := hrel
    have hwr2 := hwr.symm
    clear hwr
    subst hwr2
    have HNO := Lib.hid hno
    clear hno
    by_cases hlt : k < xs.length
    · obtain ⟨b, off, rfl, hcell⟩ := HC.out k hlt
      have HKK := HK.out k hlt
      obtain ⟨y, hy⟩ : ∃ y, xs[k] = y := ⟨_, rfl⟩
      rw [hy] at hcell HKK
      have HK2 := Lib.hid HKK
      have hki : (k : Int) < (xs.length : Int) := by omega
      have hk0 : (0 : Int) ≤ (k : Int) := by omega
      clear HKK
      cases hp : p y with
      | true =>
        rw [hp] at HK2
        have HCO : Hid (xs.any p = true) := Lib.hid (List.any_eq_true.2 ⟨y, hy ▸ List.getElem_mem _, hp⟩)
        clear hy hp
        go_wp2_with fail
        refine HK2.out.mono ?_
        rintro e w1 ⟨rfl, rfl⟩
        go_wp2
        go_ret
        exact ⟨_, rfl, by rw [HCO.out]; simp, rfl⟩
      | false =>
        rw [hp] at HK2
        have HY := Lib.hid (And.intro hy hp)
        clear hy hp
        go_wp2_with fail
        refine HK2.out.mono ?_
        rintro e w1 ⟨rfl, rfl⟩
        go_wp2
        go_roundw
        case rel =>
          refine ⟨k + 1, by omega, by go_num, fun j hj hjk => ?_, trivial⟩
          by_cases e : j = k
          · subst e; rw [HY.out.1]; exact HY.out.2
          · exact HNO.out j hj (by omega)
        case measure => simp [intOf]; omega
    · obtain rfl : k = xs.length := by omega
      have HCO : Hid (xs.any p = false) := Lib.hid (by
        rw [Bool.eq_false_iff]
        intro ht
        obtain ⟨x, hx, hpx⟩ := List.any_eq_true.1 ht
        obtain ⟨j, hj, rfl⟩ := List.getElem_of_mem hx
        rw [HNO.out j hj (by omega)] at hpx
        cases hpx)
      go_wp2
      go_ret
      exact ⟨-1, rfl, by rw [HCO.out]; rfl, rfl⟩

set_option maxRecDepth 100000 in
set_option maxHeartbeats 400000 in
theorem containsFunc_any (w : World) (v : Value) (xs : List Int) (h : Ints w v xs) (K : FuncId) (caps : Array Value) (p : Int → Bool)
    (hE : ∀ args W, (callFunc K args).run Tryd.prog W = .ok (.enter K args) W)
    (hK : ∀ (j : Nat) (hj : j < xs.length), Calls Tryd.prog K (#[.int .i64 xs[j]] ++ caps) w fun e W' => e = .returned (.bool (p xs[j])) ∧ w = W') :
    Calls Tryd.prog 52 #[v, .func (.func K) #[] caps] w fun e w' => e = .returned (.bool (xs.any p)) ∧ w = w' := by
  have HI := Lib.hid (indexFunc_any w v xs h K caps p hE hK)
  clear h hE hK
  go_enter Tryd.func52, Tryd.ntmps52
  go_wp2_with (go_at_call 63; refine HI.out.mono ?_; rintro e w1 ⟨r, rfl, hr, rfl⟩)
  go_ret
  exact ⟨ret_bool (by first | exact hr | simp), rfl⟩

set_option maxRecDepth 100000 in
set_option maxHeartbeats 400000 in
theorem within1_any (w : World) (g : Nat) (lim x : Int) (h0 : 0 ≤ lim) (hl : lim ≤ 1000000) (hc : w.cell? ⟨g, 0, none⟩ = some (.int .i64 lim)) :
    Calls Tryd.prog 53 #[.int .i64 x, .pointer (some ⟨g, 0, none⟩)] w fun e W' => e = .returned (.bool (!(inL lim x))) ∧ w = W' := by
  have hneg : IntKind.i64.wrap (-lim) = -lim := by rw [IntKind.wrap_i64]; omega
  by_cases h1 : x < -lim
  · have HR : Hid ((!(inL lim x)) = true) := Lib.hid (by unfold inL; rw [decide_eq_false (by omega)]; rfl)
    clear h0 hl
    go_enter Tryd.func53, Tryd.ntmps53
    go_wp2
    go_ret
    exact ⟨ret_bool HR.out.symm, rfl⟩
  · by_cases h2 : lim < x
    · have HR : Hid ((!(inL lim x)) = true) := Lib.hid (by unfold inL; rw [decide_eq_false (by omega)]; rfl)
      clear h0 hl
      go_enter Tryd.func53, Tryd.ntmps53
      go_wp2
      go_ret
      exact ⟨ret_bool HR.out.symm, rfl⟩
    · have HR : Hid ((!(inL lim x)) = false) := Lib.hid (by unfold inL; rw [decide_eq_true (by omega)]; rfl)
      clear h0 hl
      go_enter Tryd.func53, Tryd.ntmps53
      go_wp2
      go_ret
      exact ⟨ret_bool HR.out.symm, rfl⟩

set_option maxRecDepth 100000 in
set_option maxHeartbeats 400000 in
theorem areWithin_any (w : World) (v : Value) (xs : List Int) (h : Ints w v xs) (lim : Int) (h0 : 0 ≤ lim) (hl : lim ≤ 1000000) :
    Calls Tryd.prog 35 #[.int .i64 lim, v] w fun e w' => e = .returned (.bool (xs.all (inL lim))) ∧ Below w.heap.size w w' := by
  obtain ⟨W0, hW0⟩ : ∃ W0, w.alloc (.cells #[.int .i64 lim] 3) = W0 := ⟨_, rfl⟩
  have hb0 : Below w.heap.size w W0 := by rw [← hW0]; exact (Below.refl _ _).alloc (Nat.le_refl _) _
  have hc : W0.cell? ⟨w.heap.size, 0, none⟩ = some (.int .i64 lim) := by rw [← hW0]; simp
  have hall : xs.any (fun x => !(inL lim x)) = !(xs.all (inL lim)) := by rw [List.all_eq_not_any_not]; simp
  have HCF := Lib.hid (containsFunc_any W0 v xs (h.below hb0) 53 #[.pointer (some ⟨w.heap.size, 0, none⟩)] (fun x => !(inL lim x)) (by intro args W; go_simp) (fun j hj => within1_any W0 w.heap.size lim xs[j] h0 hl hc))
  rw [hall] at HCF
  have HB0 := Lib.hid hb0
  obtain ⟨r, hr⟩ : ∃ r, xs.all (inL lim) = r := ⟨_, rfl⟩
  rw [hr] at HCF ⊢
  clear h hb0 hc hall hr h0 hl
  go_enter Tryd.func35, Tryd.ntmps35
  go_wp2_with (go_at_call 52; refine HCF.out.mono ?_; rintro e w1 ⟨rfl, rfl⟩)
  go_ret
  exact ⟨ret_bool (by simp), HB0.out⟩

end Go.Proofs.YtellghhilcjbnaaDoor

/-
  impl.costsFrom reads costs from a list of rows; it fails if the list has none.
-/
namespace Go.Proofs.YtellghhilcjbnaaDoor
set_option linter.unusedVariables false
set_option linter.unusedSimpArgs false
open Go.RowKit

def cFromOf (xss : List (List Int)) : Array Value := if cIn xss = true then tcells xss.length (flat xss) else tcells 0 (fun _ => 0)
theorem inL_numC : inL 1000 = numC := by funext x; rfl
theorem rowC_all {n : Nat} {xs : List Int} (h : xs.length = n) : rowC n xs = xs.all numC := by unfold rowC; rw [decide_eq_true h]; rfl

/-- A row copied into the cells of a table. -/
theorem copy_row (n : Nat) (Fs Gs : Nat → Int) (k : Nat) (xs : List Int) (hk : k < 6) (hl : xs.length ≤ 6) (h1 : ∀ j (hj : j < xs.length), Gs (6 * k + j) = xs[j]) (h2 : ∀ i, i < 6 * k ∨ 6 * k + xs.length ≤ i → Gs i = Fs i) :
    ((tcells n Fs).toList.take (1 + k * 6) ++ (vals xs ++ (tcells n Fs).toList.drop (1 + k * 6 + (vals xs).length))).toArray = tcells n Gs := by
  apply Array.ext'
  apply List.ext_getElem?
  intro i
  have hvl : (vals xs).length = xs.length := by simp [vals]
  have hsz : (tcells n Fs).toList.length = 37 := by rw [Array.length_toList]; exact tcells_size n Fs
  have hszg : (tcells n Gs).toList.length = 37 := by rw [Array.length_toList]; exact tcells_size n Gs
  have get : ∀ (H : Nat → Int) (j : Nat), (tcells n H).toList[j]? = (tcells n H)[j]? := fun H j => by rw [Array.getElem?_toList]
  rw [hvl]
  show (List.take (1 + k * 6) (tcells n Fs).toList ++ (vals xs ++ List.drop (1 + k * 6 + xs.length) (tcells n Fs).toList))[i]? = _
  by_cases hi0 : i = 0
  · subst hi0
    rw [List.getElem?_append_left (by rw [List.length_take]; omega), List.getElem?_take_of_lt (by omega), get, get, tcells_zero, tcells_zero]
  · obtain ⟨m, rfl⟩ : ∃ m, i = 1 + m := ⟨i - 1, by omega⟩
    by_cases hm : m < 36
    · by_cases ha : m < k * 6
      · rw [List.getElem?_append_left (by rw [List.length_take]; omega), List.getElem?_take_of_lt (by omega), get, get, tcells_at _ _ _ hm, tcells_at _ _ _ hm, h2 m (.inl (by omega))]
      · rw [List.getElem?_append_right (by rw [List.length_take]; omega)]
        have e1 : 1 + m - (List.take (1 + k * 6) (tcells n Fs).toList).length = m - k * 6 := by rw [List.length_take]; omega
        rw [e1]
        by_cases hb : m < k * 6 + xs.length
        · rw [List.getElem?_append_left (by rw [hvl]; omega), get, tcells_at _ _ _ hm]
          have hj : m - k * 6 < xs.length := by omega
          have e2 : m = 6 * k + (m - k * 6) := by omega
          have e3 := h1 (m - k * 6) hj
          rw [← e2] at e3
          rw [e3]
          simp [vals, hj]
        · rw [List.getElem?_append_right (by rw [hvl]; omega), hvl, List.getElem?_drop]
          have e2 : 1 + k * 6 + xs.length + (m - k * 6 - xs.length) = 1 + m := by omega
          rw [e2, get, get, tcells_at _ _ _ hm, tcells_at _ _ _ hm, h2 m (.inr (by omega))]
    · rw [get, Array.getElem?_eq_none (by rw [tcells_size]; omega)]
      rw [List.getElem?_eq_none]
      simp only [List.length_append, List.length_take, List.length_drop, hvl]
      omega
theorem part_in (xss : List (List Int)) {k : Nat} (hk : k < xss.length) (h6 : xss[k].length ≤ 6) : (∀ j (hj : j < xss[k].length), partT xss (k + 1) 0 (6 * k + j) = xss[k][j]) ∧ (∀ i, i < 6 * k ∨ 6 * k + xss[k].length ≤ i → partT xss (k + 1) 0 i = partT xss k 0 i) := by
  refine ⟨fun j hj => ?_, fun i hi => ?_⟩
  · have := flat_at xss hk hj (by omega)
    unfold partT
    rw [if_pos (by left; omega), this]
  · have hp := partT_row xss (k := k) (j := xss[k].length) (by rw [List.getD_eq_getElem?_getD, List.getElem?_eq_getElem hk, Option.getD_some]; exact Nat.le_refl _)
    rw [← hp]
    unfold partT
    by_cases h : i / 6 < k
    · rw [if_pos (.inl h), if_pos (.inl h)]
    · rw [if_neg (by omega), if_neg (by omega)]

/-- What stands when the rows so far were read. -/
def ReadC (w wr : World) (xss : List (List Int)) (k : Nat) : Prop :=
  Below w.heap.size w wr ∧ wr.heap[w.heap.size]? = some (.cells (tcells 0 fun _ => 0) 49 (0, 0)) ∧ wr.heap[w.heap.size + 1]? = some (.cells (tcells xss.length (partT xss k 0)) 47 (0, 0))

set_option maxRecDepth 100000 in
set_option maxHeartbeats 2000000 in
theorem cFrom_any (w : World) (v : Value) (xss : List (List Int)) (h : IntRows w v xss) :
    Calls Tryd.prog 28 #[v] w fun e w' => e = .returned (.tuple #[.agg (cFromOf xss), .bool (cIn xss)]) ∧ Below w.heap.size w w' := by
  obtain ⟨A, cap, rfl, hm, hc⟩ := h.at
  have HC := Lib.hid hc
  clear hc h
  unfold maxLen at hm
  by_cases hs : xss.length < 1 ∨ 6 < xss.length
  · have hno : cIn xss = false := by
      unfold cIn
      rw [Bool.and_eq_false_iff]
      right
      rw [decide_eq_false_iff_not]; omega
    have HNO := Lib.hid hno
    clear hno
    have fin : ∀ u : Array Value, u.getD 2 undef = .pointer (some ⟨w.heap.size, 0, none⟩) → u.getD 3 undef = .bool false → bodyPost Tryd.prog Tryd.f28 (fun e w' => e = .returned (.tuple #[.agg (cFromOf xss), .bool (cIn xss)]) ∧ Below w.heap.size w w') .ret { tmps := u, defers := [] } ((w.alloc (.cells (tcells 0 fun _ => 0) 49)).setRow w.heap.size (tcells 0 fun _ => 0)) := by
      intro u hu2 hu3
      refine bodyPost_ret (v := .tuple #[.agg (tcells 0 (fun _ => 0)), .bool false]) (ret_whole2 rfl _ _ w.heap.size 0 (fun _ => 0) (.bool false) hu2 hu3 (heap_setRowT (World.alloc_heap_new _ _))) rfl ?_
      unfold cFromOf
      rw [HNO.out]
      exact ⟨rfl, below_setRowT ((Below.refl _ _).alloc (Nat.le_refl _) _) (Nat.le_refl _) _⟩
    rcases hs with hs | hs
    · have a1 : (xss.length : Int) < 1 := by omega
      clear hs
      go_enter Tryd.func28, Tryd.ntmps28
      go_wp2_with (first
        | (refine alloc_whole rfl rfl ?_)
        | (refine build_whole0 rfl rfl ?_)
        | (refine store_whole rfl _ _ rfl w.heap.size 0 (fun _ => 0) rfl rfl 0 (fun _ => 0) (World.alloc_heap_new _ _) ?_))
      all_goals exact fin _ rfl rfl
    · have a1 : ¬ (xss.length : Int) < 1 := by omega
      have a2 : (6 : Int) < (xss.length : Int) := by omega
      clear hs
      go_enter Tryd.func28, Tryd.ntmps28
      go_wp2_with (first
        | (refine alloc_whole rfl rfl ?_)
        | (refine build_whole0 rfl rfl ?_)
        | (refine store_whole rfl _ _ rfl w.heap.size 0 (fun _ => 0) rfl rfl 0 (fun _ => 0) (World.alloc_heap_new _ _) ?_))
      all_goals exact fin _ rfl rfl
  · have h1 : 1 ≤ xss.length := by omega
    have h6 : xss.length ≤ 6 := by omega
    have a1 : ¬ (xss.length : Int) < 1 := by omega
    have a2 : ¬ (6 : Int) < (xss.length : Int) := by omega
    clear hs
    go_enter Tryd.func28, Tryd.ntmps28
    go_wp2_with (first
      | (refine alloc_whole rfl rfl ?_)
      | (refine build_table rfl _ rfl xss.length rfl ?_)
      | (refine alloc_table rfl rfl ?_)
      | (refine store_table_last rfl _ _ rfl xss.length (fun _ => 0) _ (by simp) rfl rfl ?_))
    obtain ⟨W, hW⟩ : ∃ W, (w.alloc (.cells (tcells 0 fun _ => 0) 49)).alloc (.cells (tcells xss.length fun _ => 0) 47) = W := ⟨_, rfl⟩
    have hRd : ReadC w W xss 0 := by
      rw [← hW]
      exact ⟨((Below.refl _ _).alloc (Nat.le_refl _) _).alloc (by simp) _, heap_alloc2_old _ _ _, by rw [partT_zero]; exact heap_alloc2_new _ _ _⟩
    rw [hW]
    clear hW
    go_loopw [5, 6, 21] (fun _ _ i wr => ∃ k : Nat, k ≤ xss.length ∧ i = .int .i64 k ∧ ReadC w wr xss k ∧ (∀ c (hc : c < xss.length), c < k → rowC xss.length xss[c] = true)) (fun _ _ i _ => xss.length - (intOf i).toNat)
    case atStart => exact ⟨0, by omega, rfl, hRd, fun c hc h => by omega⟩
    case round =>
      clear hRd
      obtain ⟨k, hk, rfl, ⟨hb, hr, hg⟩, hrows⟩ := hrel
      have HR := Lib.hid hr
      have HG := Lib.hid hg
      have HB := Lib.hid hb
      have HO := Lib.hid hrows
      obtain ⟨c0, _, _, _⟩ := table_cells hg
      clear hr hg hrows
      by_cases hlt : k < xss.length
      · obtain ⟨b, off, u, rfl, hcell, hints⟩ := HC.out k hlt
        have hcell' := (hb.cell (p := ⟨b, off + k, none⟩) (World.block_lt_of_cell? w _ hcell)).trans hcell
        have hin2 := hints.below hb
        obtain ⟨A2, cap2, rfl, hm2, hc2⟩ := hints
        have hki : (k : Int) < (xss.length : Int) := by omega
        have hk0 : (0 : Int) ≤ (k : Int) := by omega
        have hk6 : (k : Int) < 6 := by omega
        have HC2 := Lib.hid hc2
        clear hcell hb hc2
        unfold maxLen at hm2
        by_cases hrl : xss[k].length = xss.length
        · have HAW := Lib.hid (areWithin_any wr (.slice A2 xss[k].length cap2) xss[k] hin2 1000 (by omega) (by omega))
          rw [inL_numC] at HAW
          have e1 : ((xss[k].length : Int) != (xss.length : Int)) = false := by simp [hrl]
          have HRL := Lib.hid hrl
          clear hin2 hrl
          cases hall : xss[k].all numC with
          | true =>
            rw [hall] at HAW
            have HROW : Hid (rowC xss.length xss[k] = true) := Lib.hid (by rw [rowC_all HRL.out]; exact hall)
            clear hall
            obtain ⟨b2, off2, rfl, -⟩ := HC2.out 0 (by have := HRL.out; omega)
            obtain ⟨hp1, hp2⟩ := part_in xss hlt (by have := HRL.out; omega)
            have HEQ := Lib.hid (copy_row xss.length (partT xss k 0) (partT xss (k + 1) 0) k xss[k] (by omega) (by have := HRL.out; omega) hp1 hp2)
            have hvl : (vals xss[k]).length = Nat.min xss[k].length 6 := by have := HRL.out; simp only [vals, List.length_map]; exact (Nat.min_eq_left (by omega)).symm
            have hv6 : 1 + k * 6 + (vals xss[k]).length ≤ 37 := by have := HRL.out; simp only [vals, List.length_map]; omega
            have HVL := Lib.hid (And.intro hvl hv6)
            have HSRC : Hid (∀ (W : World), Below w.heap.size w W → ∀ j v, (vals xss[k])[j]? = some v → W.cell? ((⟨b2, off2, none⟩ : Addr).add j) = some v) := Lib.hid (fun W hW j v hv => by
              have hj : j < xss[k].length := by
                have := (List.getElem?_eq_some_iff.1 hv).1
                simpa [vals] using this
              obtain ⟨b3, off3, e3, hc3⟩ := HC2.out j hj
              obtain ⟨rfl, rfl⟩ : b2 = b3 ∧ off2 = off3 := by simpa using e3
              have hx : v = .int .i64 xss[k][j] := by simpa [vals, hj] using hv.symm
              rw [hx, Go.WideShapes.add_plain]
              exact (hW.cell (p := ⟨b2, off2 + j, none⟩) (World.block_lt_of_cell? w _ hc3)).trans hc3)
            clear hp1 hp2 hvl hv6
            go_wp2_with (first
              | (go_at_call 35; refine HAW.out.mono ?_; rintro e w1 ⟨rfl, hb1⟩; have hg1 := kept_obj hb1 HG.out)
              | (refine wpList_copy_own rfl _ _ 24 24 rfl 3 Tryd.underlying24 (by kernel_rfl) (w.heap.size + 1) (1 + k * 6) 6 6 ⟨b2, off2, none⟩ xss[k].length cap2 rfl rfl (tcells xss.length (partT xss k 0)) 47 hg1 (vals xss[k]) HVL.out.1 (HSRC.out w1 (step_below HB.out hb1)) (by rw [tcells_size]; exact HVL.out.2) (by simp [vals, Value.oneCell']) ?_; rw [HEQ.out]))
            have hr1 := kept_obj hb1 HR.out
            have hb2 := step_below HB.out hb1
            have HX : Hid (ReadC w (w1.setRow (w.heap.size + 1) (tcells xss.length (partT xss (k + 1) 0))) xss (k + 1)) := Lib.hid ⟨below_setRowT hb2 (by simp) _, (heap_setRowT_other _ _ _ _ (by omega)).trans hr1, heap_setRowT hg1⟩
            clear hr1 hb2 hg1
            go_wp2
            go_roundw
            all_goals first
              | (refine ⟨k + 1, by omega, by go_num, HX.out, fun c hc h => ?_⟩; by_cases hcm : c = k; (· subst hcm; exact HROW.out); exact HO.out c hc (by omega))
              | (simp [intOf]; omega)
          | false =>
            rw [hall] at HAW
            have hno : cIn xss = false := cIn_row hlt (by rw [rowC_all HRL.out]; exact hall)
            have HNO := Lib.hid hno
            clear hno hall
            go_wp2_with (first
              | (go_at_call 35; refine HAW.out.mono ?_; rintro e w1 ⟨rfl, hb1⟩; have hr1 := kept_obj hb1 HR.out)
              | (refine build_whole0 rfl rfl ?_)
              | (refine store_whole rfl _ _ rfl w.heap.size 0 (fun _ => 0) rfl rfl 0 (fun _ => 0) hr1 ?_))
            refine bodyPost_ret (v := .tuple #[.agg (tcells 0 (fun _ => 0)), .bool false]) (ret_whole2 rfl _ _ w.heap.size 0 (fun _ => 0) (.bool false) rfl rfl (heap_setRowT hr1)) rfl ?_
            unfold cFromOf
            rw [HNO.out]
            exact ⟨rfl, below_setRowT (step_below HB.out hb1) (Nat.le_refl _) _⟩
        · have e1 : ((xss[k].length : Int) != (xss.length : Int)) = true := by simp; omega
          have hno : cIn xss = false := cIn_row hlt (rowC_len hrl)
          have HNO := Lib.hid hno
          clear hno hin2
          go_wp2_with (first
            | (refine build_whole0 rfl rfl ?_)
            | (refine store_whole rfl _ _ rfl w.heap.size 0 (fun _ => 0) rfl rfl 0 (fun _ => 0) HR.out ?_))
          refine bodyPost_ret (v := .tuple #[.agg (tcells 0 (fun _ => 0)), .bool false]) (ret_whole2 rfl _ _ w.heap.size 0 (fun _ => 0) (.bool false) rfl rfl (heap_setRowT HR.out)) rfl ?_
          unfold cFromOf
          rw [HNO.out]
          exact ⟨rfl, below_setRowT HB.out (Nat.le_refl _) _⟩
      · obtain rfl : k = xss.length := by omega
        have hyes : cIn xss = true := by rw [cIn_yes (fun c hc => HO.out c hc hc), decide_eq_true_iff]; omega
        rw [partT_full] at HG
        have HY := Lib.hid hyes
        clear hyes c0
        go_wp2_with (first
          | (refine load_table rfl _ rfl _ xss.length (flat xss) rfl HG.out ?_)
          | (refine build_whole rfl _ rfl xss.length (flat xss) rfl ?_)
          | (refine store_whole rfl _ _ rfl w.heap.size xss.length (flat xss) rfl rfl 0 (fun _ => 0) HR.out ?_))
        refine bodyPost_ret (v := .tuple #[.agg (tcells xss.length (flat xss)), .bool true]) (ret_whole2 rfl _ _ w.heap.size xss.length (flat xss) (.bool true) rfl rfl (heap_setRowT HR.out)) rfl ?_
        unfold cFromOf
        rw [HY.out]
        exact ⟨rfl, below_setRowT HB.out (Nat.le_refl _) _⟩

end Go.Proofs.YtellghhilcjbnaaDoor

/-
  How many rows costs have.
-/
namespace Go.Proofs.YtellghhilcjbnaaDoor
set_option linter.unusedVariables false
set_option linter.unusedSimpArgs false
open Go.RowKit

theorem cIn_size {xss : List (List Int)} (h : cIn xss = true) : 1 ≤ xss.length ∧ xss.length ≤ 6 := by
  unfold cIn at h
  rw [Bool.and_eq_true, decide_eq_true_iff] at h
  exact h.2

end Go.Proofs.YtellghhilcjbnaaDoor

