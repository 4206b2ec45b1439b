/-
  GRAPHS AS VALUES: nine cells: the number of nodes and eight sets. The cells are kept behind a name (gcells), so that a walk carries them whole.
-/
import Derived.Test.YtjijkgmeddeihaaDoorSets
import Derived.Test.YtjijkgmeddeihaaDoorLinks
import Derived.Deep.WholeRow
namespace Go.Proofs.YtjijkgmeddeihaaDoor
set_option linter.unusedVariables false
set_option linter.unusedSimpArgs false
open Go.RowKit

def gcells (n : Nat) (f : Nat → Nat) : Array Value :=
  #[.int .i64 (n : Int), .int .i64 (f 0 : Nat), .int .i64 (f 1 : Nat), .int .i64 (f 2 : Nat), .int .i64 (f 3 : Nat), .int .i64 (f 4 : Nat), .int .i64 (f 5 : Nat), .int .i64 (f 6 : Nat), .int .i64 (f 7 : Nat)]

theorem gcells_size (n : Nat) (f : Nat → Nat) : (gcells n f).size = 9 := rfl
theorem gcells_zero (n : Nat) (f : Nat → Nat) : (gcells n f)[0]? = some (.int .i64 (n : Int)) := rfl
theorem gcells_at (n : Nat) (f : Nat → Nat) (i : Nat) (h : i < 8) : (gcells n f)[1 + i]? = some (.int .i64 (f i : Nat)) := by
  match i, h with
  | 0, _ => rfl
  | 1, _ => rfl
  | 2, _ => rfl
  | 3, _ => rfl
  | 4, _ => rfl
  | 5, _ => rfl
  | 6, _ => rfl
  | 7, _ => rfl
theorem gcells_one (n : Nat) (f : Nat → Nat) : (gcells n f).all (·.oneCell') = true := by simp [gcells, Value.oneCell']

theorem gcells_set (n : Nat) (f : Nat → Nat) (i x : Nat) (h : i < 8) : (gcells n f).setIfInBounds (1 + i) (.int .i64 (x : Int)) = gcells n (upd f i x) := by
  match i, h with
  | 0, _ => rfl
  | 1, _ => rfl
  | 2, _ => rfl
  | 3, _ => rfl
  | 4, _ => rfl
  | 5, _ => rfl
  | 6, _ => rfl
  | 7, _ => rfl
theorem gcells_zeros : (#[.int .i64 0, .int .i64 0, .int .i64 0, .int .i64 0, .int .i64 0, .int .i64 0, .int .i64 0, .int .i64 0, .int .i64 0] : Array Value) = gcells 0 (fun _ => 0) := rfl
theorem gcells_new (n : Nat) : (#[.int .i64 (n : Int), .int .i64 0, .int .i64 0, .int .i64 0, .int .i64 0, .int .i64 0, .int .i64 0, .int .i64 0, .int .i64 0] : Array Value) = gcells n (fun _ => 0) := rfl
theorem gcells_congr {n : Nat} {f g : Nat → Nat} (h : ∀ i, i < 8 → f i = g i) : gcells n f = gcells n g := by
  unfold gcells
  rw [h 0 (by decide), h 1 (by decide), h 2 (by decide), h 3 (by decide), h 4 (by decide), h 5 (by decide), h 6 (by decide), h 7 (by decide)]

theorem sizeG : (Tryd.prog.info? 39).map (·.size) = some 9 := by kernel_rfl
theorem size_gcells (n : Nat) (f : Nat → Nat) : (Tryd.prog.info? 39).map (·.size) = some (gcells n f).size := by rw [gcells_size]; exact sizeG

/-- The nine cells of a graph that lies in a block. -/
theorem graph_cells {w : World} {g n : Nat} {f : Nat → Nat} (hg : w.heap[g]? = some (.cells (gcells n f) 39 (0, 0))) :
    w.cell? ⟨g, 0, none⟩ = some (.int .i64 (n : Int)) ∧ (∀ i, i < 8 → w.cell? ⟨g, 1 + i, none⟩ = some (.int .i64 (f i : Nat))) ∧ (∀ i, w.frozen? ⟨g, i, none⟩ = false) ∧ g < w.heap.size :=
  ⟨by rw [cell_of_row _ _ _ _ _ _ hg]; rfl, fun i hi => by rw [cell_of_row _ _ _ _ _ _ hg]; exact gcells_at n f i hi, fun i => frozen_of_row w g i _ _ hg, (Array.getElem?_eq_some_iff.1 hg).1⟩

/-- One set of a graph that lies in a block is stored. -/
theorem graph_stored {w : World} {g n : Nat} {f : Nat → Nat} (i x : Nat) (hi : i < 8) (hg : w.heap[g]? = some (.cells (gcells n f) 39 (0, 0))) :
    (w.setCell ⟨g, 1 + i, none⟩ (.int .i64 (x : Int))).heap[g]? = some (.cells (gcells n (upd f i x)) 39 (0, 0)) := by
  rw [heap_setCell_same w g (1 + i) _ _ _ hg, gcells_set n f i x hi]

/-- The whole graph out of its block. -/
theorem load_graph {ops : Array Oper} {rest : List Oper} {o : Oper} {a : Act} {w : World} {Q : Exit → Act → World → Prop} (hgd : o.guard = none) (x : Operand) (ho : o.op = .load 39 x)
    (g : Nat) (n : Nat) (f : Nat → Nat) (hx : a.eval x = .pointer (some ⟨g, 0, none⟩)) (hg : w.heap[g]? = some (.cells (gcells n f) 39 (0, 0)))
    (h : wpList Tryd.prog ops Q rest (a.put o.dst (.agg (gcells n f))) w) : wpList Tryd.prog ops Q (o :: rest) a w :=
  wpList_load_row hgd 39 x ho g hx 39 (gcells n f) (0, 0) _ hg Tryd.underlying39 rfl (size_gcells n f) h

/-- A whole graph into a block that held one. -/
theorem store_graph {ops : Array Oper} {rest : List Oper} {o : Oper} {a : Act} {w : World} {Q : Exit → Act → World → Prop} (hgd : o.guard = none) (x y : Operand) (ho : o.op = .store 39 x y)
    (g : Nat) (n : Nat) (f : Nat → Nat) (hx : a.eval x = .pointer (some ⟨g, 0, none⟩)) (hy : a.eval y = .agg (gcells n f)) (n0 : Nat) (f0 : Nat → Nat)
    (hg : w.heap[g]? = some (.cells (gcells n0 f0) 39 (0, 0)))
    (h : wpList Tryd.prog ops Q rest (a.put o.dst undef) (w.setRow g (gcells n f))) : wpList Tryd.prog ops Q (o :: rest) a w :=
  wpList_store_row hgd 39 x y ho g (gcells n f) hx hy 39 (gcells n0 f0) hg (size_gcells n f) rfl (gcells_one n f) h

theorem heap_setRow_same {w : World} {g : Nat} {cs c' : Array Value} {t : TypeId} {fr : Nat × Nat} (h : w.heap[g]? = some (.cells cs t fr)) : (w.setRow g c').heap[g]? = some (.cells c' t fr) := by
  have hlt := (Array.getElem?_eq_some_iff.1 h).1
  have h' : w.heap[g] = .cells cs t fr := by simpa [Array.getElem?_eq_getElem hlt] using h
  show (w.heap.modify g _)[g]? = _
  rw [Array.getElem?_eq_getElem (by simpa using hlt), Array.getElem_modify_self, h']
theorem heap_setRow_other (w : World) (g k : Nat) (c' : Array Value) (h : k ≠ g) : (w.setRow g c').heap[k]? = w.heap[k]? := by
  show (w.heap.modify g _)[k]? = _
  rw [Array.getElem?_modify, if_neg (by omega)]
theorem below_setRow {B : Nat} {a w : World} (h : Below B a w) {g : Nat} (hg : B ≤ g) (c : Array Value) : Below B a (w.setRow g c) :=
  h.trans ⟨rfl, rfl, rfl, by simp [World.setRow], fun k hk => heap_setRow_other w g k c (by omega)⟩

/-- A whole graph into a block that was made last, with zeros. -/
theorem store_graph_new {ops : Array Oper} {rest : List Oper} {o : Oper} {a : Act} {w : World} {Q : Exit → Act → World → Prop} (hgd : o.guard = none) (x y : Operand) (ho : o.op = .store 39 x y)
    (n : Nat) (f : Nat → Nat) (hx : a.eval x = .pointer (some ⟨w.heap.size, 0, none⟩)) (hy : a.eval y = .agg (gcells n f))
    (h : wpList Tryd.prog ops Q rest (a.put o.dst undef) (w.alloc (.cells (gcells n f) 39))) :
    wpList Tryd.prog ops Q (o :: rest) a (w.alloc (.cells #[.int .i64 0, .int .i64 0, .int .i64 0, .int .i64 0, .int .i64 0, .int .i64 0, .int .i64 0, .int .i64 0, .int .i64 0] 39)) := by
  rw [gcells_zeros]
  refine store_graph hgd x y ho w.heap.size n f hx hy 0 (fun _ => 0) (World.alloc_heap_new w _) ?_
  rw [World.setRow_alloc_new]
  exact h

/-- What two results of a function give where the first is a graph that lies in its cell. -/
theorem ret_graph {fn : Func} {p : Tmp} (h : fn.results = #[.cell p 39]) (tmps : Array Value) (w : World) (g n : Nat) (f : Nat → Nat)
    (hp : tmps.getD p undef = .pointer (some ⟨g, 0, none⟩)) (hg : w.heap[g]? = some (.cells (gcells n f) 39 (0, 0))) :
    (results fn tmps).run Tryd.prog w = .ok (.agg (gcells n f)) w :=
  results_cell_row h tmps w g 39 (gcells n f) (0, 0) _ hp hg Tryd.underlying39 rfl (size_gcells n f)

theorem ret_graph2 {fn : Func} {p u : Tmp} (h : fn.results = #[.cell p 39, .tmp u]) (tmps : Array Value) (w : World) (g n : Nat) (f : Nat → Nat) (v : Value)
    (hp : tmps.getD p undef = .pointer (some ⟨g, 0, none⟩)) (hv : tmps.getD u undef = v) (hg : w.heap[g]? = some (.cells (gcells n f) 39 (0, 0))) :
    (results fn tmps).run Tryd.prog w = .ok (.tuple #[.agg (gcells n f), v]) w := by
  subst hv
  rw [results_cell_tmp h tmps Tryd.prog w, hp]
  simp only [asAddr, Sem.run_pure, Result.andThen]
  rw [run_loadVar_row w g 39 39 (gcells n f) (0, 0) _ hg Tryd.underlying39 rfl (size_gcells n f)]

theorem below_new {w w1 : World} {o : Obj} (hb : Below (w.alloc o).heap.size (w.alloc o) w1) : Below w.heap.size w w1 ∧ w1.heap[w.heap.size]? = some o ∧ w.heap.size < w1.heap.size := by
  refine ⟨((Below.refl _ _).alloc (Nat.le_refl _) _).trans (hb.mono (by simp)), ?_, ?_⟩
  · rw [hb.block _ (by simp)]; exact World.alloc_heap_new w o
  · have := hb.size; simp at this; omega


end Go.Proofs.YtjijkgmeddeihaaDoor
