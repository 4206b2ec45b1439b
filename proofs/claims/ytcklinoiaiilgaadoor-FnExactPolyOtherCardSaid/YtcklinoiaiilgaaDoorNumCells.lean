/-
  COUNTERS AND MATCHING NUMBERS AS VALUES: five numbers, and ten cells: a graph's nine and a map; and the map of what is kept.
-/
import Derived.Test.YtcklinoiaiilgaaDoorGraphs
import Derived.Test.YtcklinoiaiilgaaDoorGraphsIn
import Derived.Test.YtcklinoiaiilgaaDoorNums
import Derived.Maps.OwnOps
import Derived.Maps.OwnSet
import Derived.Maps.OwnIn
namespace Go.Proofs.YtcklinoiaiilgaaDoor
set_option linter.unusedVariables false
set_option linter.unusedSimpArgs false
open Go.RowKit
open Go.Maps (Keyed)

def ncells (g : Nat → Nat) : Array Value := #[.int .i64 (g 0 : Nat), .int .i64 (g 1 : Nat), .int .i64 (g 2 : Nat), .int .i64 (g 3 : Nat), .int .i64 (g 4 : Nat)]
theorem ncells_size (g : Nat → Nat) : (ncells g).size = 5 := rfl
theorem ncells_at (g : Nat → Nat) (i : Nat) (h : i < 5) : (ncells g)[i]? = some (.int .i64 (g i : Nat)) := by
  match i, h with
  | 0, _ => rfl
  | 1, _ => rfl
  | 2, _ => rfl
  | 3, _ => rfl
  | 4, _ => rfl
theorem ncells_one (g : Nat → Nat) : (ncells g).all (·.oneCell') = true := by simp [ncells, Value.oneCell']
theorem ncells_set (g : Nat → Nat) (i x : Nat) (h : i < 5) : (ncells g).setIfInBounds i (.int .i64 (x : Int)) = ncells (upd g i x) := by
  match i, h with
  | 0, _ => rfl
  | 1, _ => rfl
  | 2, _ => rfl
  | 3, _ => rfl
  | 4, _ => rfl
theorem ncells_zeros : (#[.int .i64 0, .int .i64 0, .int .i64 0, .int .i64 0, .int .i64 0] : Array Value) = ncells (fun _ => 0) := rfl
theorem ncells_congr {g h : Nat → Nat} (e : ∀ i, i < 5 → g i = h i) : ncells g = ncells h := by
  unfold ncells
  rw [e 0 (by decide), e 1 (by decide), e 2 (by decide), e 3 (by decide), e 4 (by decide)]
theorem sizeN : (Tryd.prog.info? 51).map (·.size) = some 5 := by kernel_rfl
theorem size_ncells (g : Nat → Nat) : (Tryd.prog.info? 51).map (·.size) = some (ncells g).size := by rw [ncells_size]; exact sizeN

/-- The ten cells of a counter. -/
def ccells (n : Nat) (f : Nat → Nat) (B : Nat) : Array Value :=
  #[.int .i64 (n : Int), .int .i64 (f 0 : Nat), .int .i64 (f 1 : Nat), .int .i64 (f 2 : Nat), .int .i64 (f 3 : Nat), .int .i64 (f 4 : Nat), .int .i64 (f 5 : Nat), .int .i64 (f 6 : Nat), .int .i64 (f 7 : Nat), .map (some B)]
theorem ccells_size (n : Nat) (f : Nat → Nat) (B : Nat) : (ccells n f B).size = 10 := rfl
theorem ccells_at (n : Nat) (f : Nat → Nat) (B i : Nat) (h : i < 8) : (ccells n f B)[1 + i]? = some (.int .i64 (f i : Nat)) := by
  match i, h with
  | 0, _ => rfl
  | 1, _ => rfl
  | 2, _ => rfl
  | 3, _ => rfl
  | 4, _ => rfl
  | 5, _ => rfl
  | 6, _ => rfl
  | 7, _ => rfl
theorem sizeC : (Tryd.prog.info? 47).map (·.size) = some 10 := by kernel_rfl
theorem size_ccells (n : Nat) (f : Nat → Nat) (B : Nat) : (Tryd.prog.info? 47).map (·.size) = some (ccells n f B).size := by rw [ccells_size]; exact sizeC
theorem counter_cells {w : World} {g n B : Nat} {f : Nat → Nat} (hg : w.heap[g]? = some (.cells (ccells n f B) 47 (0, 0))) :
    w.cell? ⟨g, 0, none⟩ = some (.int .i64 (n : Int)) ∧ (∀ i, i < 8 → w.cell? ⟨g, 1 + i, none⟩ = some (.int .i64 (f i : Nat))) ∧ w.cell? ⟨g, 9, none⟩ = some (.map (some B)) ∧ (∀ i, w.frozen? ⟨g, i, none⟩ = false) ∧ g < w.heap.size :=
  ⟨by rw [cell_of_row _ _ _ _ _ _ hg]; rfl, fun i hi => by rw [cell_of_row _ _ _ _ _ _ hg]; exact ccells_at n f B i hi, by rw [cell_of_row _ _ _ _ _ _ hg]; rfl, fun i => frozen_of_row w g i _ _ hg, (Array.getElem?_eq_some_iff.1 hg).1⟩

/-- A whole block out of its place, inside a fence. -/
theorem load_counter_in {F : Fence} {m : Nat} {ops : Array Oper} {rest : List Oper} {o : Oper} {a : Act} {w : World} {Q : Exit → Act → World → Prop} (hgd : o.guard = none) (x : Operand) (ho : o.op = .load 47 x)
    (g : Nat) (n : Nat) (f : Nat → Nat) (B : Nat) (hx : a.eval x = .pointer (some ⟨g, 0, none⟩)) (hg : w.heap[g]? = some (.cells (ccells n f B) 47 (0, 0)))
    (h : wpListIn F m Tryd.prog ops Q rest (a.put o.dst (.agg (ccells n f B))) w) : wpListIn F m Tryd.prog ops Q (o :: rest) a w := by
  refine wpListIn_plain hgd fun K hK' => ?_
  unfold Oper.wpIn
  refine ⟨?_, ?_⟩
  · simp [Oper.about, ho]
  · rw [Oper.semAt_plain F _ _ (by rw [ho]; intro c hc'; cases hc')]
    unfold execOp
    simp only [ho, hx, Instr.loadAt, Instr.sureAddr, Sem.run_bind, Sem.run_pure, Result.andThen_ok, run_loadVar_row w g 47 47 (ccells n f B) (0, 0) _ hg Tryd.underlying47 rfl (size_ccells n f B)]
    exact hK' _ _ h

theorem new_nums (W : World) (g : Nat → Nat) (b : Nat) (hb : W.heap.size = b) : (W.alloc (.cells (ncells g) 51)).heap[b]? = some (.cells (ncells g) 51 (0, 0)) := by
  subst hb; exact World.alloc_heap_new _ _

theorem load_nums_in {F : Fence} {m : Nat} {ops : Array Oper} {rest : List Oper} {o : Oper} {a : Act} {w : World} {Q : Exit → Act → World → Prop} (hgd : o.guard = none) (x : Operand) (ho : o.op = .load 51 x)
    (b : Nat) (g : Nat → Nat) (hx : a.eval x = .pointer (some ⟨b, 0, none⟩)) (hg : w.heap[b]? = some (.cells (ncells g) 51 (0, 0)))
    (h : wpListIn F m Tryd.prog ops Q rest (a.put o.dst (.agg (ncells g))) w) : wpListIn F m Tryd.prog ops Q (o :: rest) a w := by
  refine wpListIn_plain hgd fun K hK' => ?_
  unfold Oper.wpIn
  refine ⟨?_, ?_⟩
  · simp [Oper.about, ho]
  · rw [Oper.semAt_plain F _ _ (by rw [ho]; intro c hc'; cases hc')]
    unfold execOp
    simp only [ho, hx, Instr.loadAt, Instr.sureAddr, Sem.run_bind, Sem.run_pure, Result.andThen_ok, run_loadVar_row w b 51 51 (ncells g) (0, 0) _ hg Tryd.underlying51 rfl (size_ncells g)]
    exact hK' _ _ h

theorem store_nums_in {F : Fence} {m : Nat} {ops : Array Oper} {rest : List Oper} {o : Oper} {a : Act} {w : World} {Q : Exit → Act → World → Prop} (hgd : o.guard = none) (x y : Operand) (ho : o.op = .store 51 x y)
    (b : Nat) (g : Nat → Nat) (hx : a.eval x = .pointer (some ⟨b, 0, none⟩)) (hy : a.eval y = .agg (ncells g)) (g0 : Nat → Nat)
    (hg : w.heap[b]? = some (.cells (ncells g0) 51 (0, 0)))
    (h : wpListIn F m Tryd.prog ops Q rest (a.put o.dst undef) (w.setRow b (ncells g))) : wpListIn F m Tryd.prog ops Q (o :: rest) a w := by
  refine wpListIn_plain hgd fun K hK' => ?_
  unfold Oper.wpIn
  refine ⟨?_, ?_⟩
  · simp [Oper.about, ho]
  · rw [Oper.semAt_plain F _ _ (by rw [ho]; intro c hc'; cases hc')]
    unfold execOp
    simp only [ho, hx, hy, Instr.storeAt, Instr.sureAddr, Sem.run_bind, Sem.run_pure, Result.andThen_ok, run_storeVar_row w b 51 51 (ncells g0) (ncells g) hg (size_ncells g) rfl (ncells_one g)]
    exact hK' _ _ h

/-- Five numbers into a block that was made last, with zeros. -/
theorem store_nums_new_in {F : Fence} {m : Nat} {ops : Array Oper} {rest : List Oper} {o : Oper} {a : Act} {w : World} {Q : Exit → Act → World → Prop} (hgd : o.guard = none) (x y : Operand) (ho : o.op = .store 51 x y)
    (g : Nat → Nat) (b : Nat) (hb : w.heap.size = b) (hx : a.eval x = .pointer (some ⟨b, 0, none⟩)) (hy : a.eval y = .agg (ncells g))
    (h : wpListIn F m Tryd.prog ops Q rest (a.put o.dst undef) (w.alloc (.cells (ncells g) 51))) :
    wpListIn F m Tryd.prog ops Q (o :: rest) a (w.alloc (.cells #[.int .i64 0, .int .i64 0, .int .i64 0, .int .i64 0, .int .i64 0] 51)) := by
  subst hb
  rw [ncells_zeros]
  refine store_nums_in hgd x y ho w.heap.size g hx hy (fun _ => 0) (World.alloc_heap_new w _) ?_
  rw [World.setRow_alloc_new]
  exact h

theorem ret_nums {fn : Func} {p : Tmp} (h : fn.results = #[.cell p 51]) (tmps : Array Value) (w : World) (b : Nat) (g : Nat → Nat)
    (hp : tmps.getD p undef = .pointer (some ⟨b, 0, none⟩)) (hg : w.heap[b]? = some (.cells (ncells g) 51 (0, 0))) :
    (results fn tmps).run Tryd.prog w = .ok (.agg (ncells g)) w :=
  results_cell_row h tmps w b 51 (ncells g) (0, 0) _ hp hg Tryd.underlying51 rfl (size_ncells g)

def numDatum (g : Nat → Nat) : DataW Unit := .agg [.lit (.int .i64 (g 0 : Nat)), .lit (.int .i64 (g 1 : Nat)), .lit (.int .i64 (g 2 : Nat)), .lit (.int .i64 (g 3 : Nat)), .lit (.int .i64 (g 4 : Nat))]
theorem numDatum_inj {g h : Nat → Nat} (e : numDatum g = numDatum h) : ncells g = ncells h := by
  simp only [numDatum, DataW.agg.injEq, List.cons.injEq, DataW.lit.injEq, Lit.int.injEq, and_true, true_and] at e
  obtain ⟨e0, e1, e2, e3, e4⟩ := e
  unfold ncells
  rw [e0, e1, e2, e3, e4]
theorem ncells_datum {g h : Nat → Nat} (e : ncells g = ncells h) : numDatum g = numDatum h := by
  have c : ∀ i, i < 5 → g i = h i := fun i hi => by
    have h1 := ncells_at g i hi
    rw [e, ncells_at h i hi] at h1
    simp at h1
    omega
  unfold numDatum
  rw [c 0 (by decide), c 1 (by decide), c 2 (by decide), c 3 (by decide), c 4 (by decide)]
open Classical in
/-- How five numbers read. -/
noncomputable def numElem (v : Value) : Option (DataW Unit × List MemPlace) :=
  if h : ∃ g : Nat → Nat, v = .agg (ncells g) then some (numDatum (Classical.choose h), []) else none
theorem numElem_mk (g : Nat → Nat) : numElem (.agg (ncells g)) = some (numDatum g, []) := by
  have h : ∃ g' : Nat → Nat, Value.agg (ncells g) = .agg (ncells g') := ⟨g, rfl⟩
  unfold numElem
  rw [dif_pos h]
  have := Classical.choose_spec h
  rw [ncells_datum (Value.agg.inj this).symm]
theorem numElem_inv {v : Value} {g : Nat → Nat} {ps : List MemPlace} (h : numElem v = some (numDatum g, ps)) : v = .agg (ncells g) := by
  unfold numElem at h
  split at h
  · rename_i hx
    simp only [Option.some.injEq, Prod.mk.injEq] at h
    rw [← numDatum_inj h.1]
    exact Classical.choose_spec hx
  · cases h

def kl (s : Nat) : Lit := .int .i64 (s : Int)
theorem keyOf_set {s : Nat} (hs : s < 256) : keyOf Tryd.prog 41 (.int .i64 (s : Int)) = some (kl s) := by
  have hw : (Lit.int .i64 (s : Int)).wf = true := by
    have h1 : IntKind.i64.min = -9223372036854775808 := by decide
    have h2 : IntKind.i64.max = 9223372036854775807 := by decide
    show (decide (IntKind.i64.min ≤ (s : Int)) && decide ((s : Int) ≤ IntKind.i64.max)) = true
    rw [h1, h2, Bool.and_eq_true, decide_eq_true_iff, decide_eq_true_iff]
    omega
  unfold keyOf mapKey
  simp [Tryd.underlying41, hw, kl]

/-- What is kept is right: block B is a map of at most m entries, from sets to their numbers. -/
def Memo (w : World) (B : Nat) (f : Nat → Nat) (m : Nat) : Prop :=
  ∃ D : DataW Unit, w.ownsMap Tryd.prog 41 numElem B m D ∧ Maps.IsMap D ∧ ∀ s, s < 256 → Maps.has D (kl s) = true → ∀ zd, D.atKey (kl s) zd = numDatum (nums f s)

theorem kl_ne {s t : Nat} (h : s ≠ t) : kl s ≠ kl t := by
  intro e
  simp only [kl, Lit.int.injEq, true_and] at e
  omega
theorem Memo.kept {w w' : World} {B m : Nat} {f : Nat → Nat} {row : Option Nat} (h : Memo w B f m) (hg : w.grownBy w' row) (hne : some B ≠ row) : Memo w' B f m := by
  obtain ⟨D, ho, hm, hs⟩ := h
  exact ⟨D, ho.kept hg hne, hm, hs⟩
theorem Memo.below {w w' : World} {B m : Nat} {f : Nat → Nat} (h : Memo w B f m) (hb : Below w.heap.size w w') : Memo w' B f m := h.kept (row := none) ⟨hb.os, hb.tape, hb.output, hb.size, fun k hk _ => hb.block k hk⟩ (by simp)
theorem Memo.mono {w : World} {B m m' : Nat} {f : Nat → Nat} (h : Memo w B f m) (hm : m ≤ m') : Memo w B f m' := by
  obtain ⟨D, ho, h2, hs⟩ := h
  exact ⟨D, ho.mono hm, h2, hs⟩
theorem Memo.lt {w : World} {B m : Nat} {f : Nat → Nat} (h : Memo w B f m) : B < w.heap.size := by
  obtain ⟨D, ho, _⟩ := h
  exact ho.lt
theorem Memo.made (w : World) (f : Nat → Nat) : Memo (w.alloc (.map #[] 0)) w.heap.size f 0 :=
  ⟨.map [], World.ownsMap_made w _ _ _, Maps.isMap_empty, fun s _ h => by cases h⟩
/-- What is right may be kept, too. -/
theorem Memo.put {w : World} {B m s : Nat} {f : Nat → Nat} {D : DataW Unit} (ho : w.ownsMap Tryd.prog 41 numElem B (m + 1) (D.put (kl s) (numDatum (nums f s)))) (hm : Maps.IsMap D)
    (hs : ∀ t, t < 256 → Maps.has D (kl t) = true → ∀ zd, D.atKey (kl t) zd = numDatum (nums f t)) : Memo w B f (m + 1) := by
  refine ⟨_, ho, hm.put _ _, fun t ht hh zd => ?_⟩
  by_cases e : t = s
  · subst e
    exact Maps.atKey_put_same hm (by simp [kl, WideAt.IsKeyLit]) _ _
  · rw [Maps.has_put_other (kl_ne e)] at hh
    rw [Maps.atKey_put_other (kl_ne e)]
    exact hs t ht hh zd

end Go.Proofs.YtcklinoiaiilgaaDoor
