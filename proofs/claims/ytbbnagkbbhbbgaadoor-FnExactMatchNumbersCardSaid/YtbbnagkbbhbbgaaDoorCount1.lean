/-
  Count1: NumCells Counter CounterStep.
-/
import Derived.Test.YtbbnagkbbhbbgaaDoorCore1
import Derived.Test.YtbbnagkbbhbbgaaDoorCore2
import Derived.Test.YtbbnagkbbhbbgaaDoorNum1
import Derived.Maps.OwnOps
import Derived.Maps.OwnSet
import Derived.Maps.OwnIn
import Derived.Outline
import Derived.RangeFuncWrites
/-
  COUNTERS AND MATCHING NUMBERS AS VALUES: five numbers, and ten cells: a graph's nine and a map; and the map of what is kept.
-/
namespace Go.Proofs.YtbbnagkbbhbbgaaDoor
set_option linter.unusedVariables false
set_option linter.unusedSimpArgs false
open Go.RowKit
open Go.Maps (Keyed)

def ncells (g : Nat → Nat) : Array Value := #[.int .i64 (g 0 : Nat), .int .i64 (g 1 : Nat), .int .i64 (g 2 : Nat), .int .i64 (g 3 : Nat), .int .i64 (g 4 : Nat)]
theorem ncells_size (g : Nat → Nat) : (ncells g).size = 5 := rfl
theorem ncells_at (g : Nat → Nat) (i : Nat) (h : i < 5) : (ncells g)[i]? = some (.int .i64 (g i : Nat)) := by
  match i, h with
  | 0, _ => rfl
  | 1, _ => rfl
  | 2, _ => rfl
  | 3, _ => rfl
  | 4, _ => rfl
theorem ncells_one (g : Nat → Nat) : (ncells g).all (·.oneCell') = true := by simp [ncells, Value.oneCell']
theorem ncells_set (g : Nat → Nat) (i x : Nat) (h : i < 5) : (ncells g).setIfInBounds i (.int .i64 (x : Int)) = ncells (upd g i x) := by
  match i, h with
  | 0, _ => rfl
  | 1, _ => rfl
  | 2, _ => rfl
  | 3, _ => rfl
  | 4, _ => rfl
theorem ncells_zeros : (#[.int .i64 0, .int .i64 0, .int .i64 0, .int .i64 0, .int .i64 0] : Array Value) = ncells (fun _ => 0) := rfl
theorem ncells_congr {g h : Nat → Nat} (e : ∀ i, i < 5 → g i = h i) : ncells g = ncells h := by
  unfold ncells
  rw [e 0 (by decide), e 1 (by decide), e 2 (by decide), e 3 (by decide), e 4 (by decide)]
theorem sizeN : (Tryd.prog.info? 40).map (·.size) = some 5 := by kernel_rfl
theorem size_ncells (g : Nat → Nat) : (Tryd.prog.info? 40).map (·.size) = some (ncells g).size := by rw [ncells_size]; exact sizeN

/-- The ten cells of a counter. -/
def ccells (n : Nat) (f : Nat → Nat) (B : Nat) : Array Value :=
  #[.int .i64 (n : Int), .int .i64 (f 0 : Nat), .int .i64 (f 1 : Nat), .int .i64 (f 2 : Nat), .int .i64 (f 3 : Nat), .int .i64 (f 4 : Nat), .int .i64 (f 5 : Nat), .int .i64 (f 6 : Nat), .int .i64 (f 7 : Nat), .map (some B)]
theorem ccells_size (n : Nat) (f : Nat → Nat) (B : Nat) : (ccells n f B).size = 10 := rfl
theorem ccells_at (n : Nat) (f : Nat → Nat) (B i : Nat) (h : i < 8) : (ccells n f B)[1 + i]? = some (.int .i64 (f i : Nat)) := by
  match i, h with
  | 0, _ => rfl
  | 1, _ => rfl
  | 2, _ => rfl
  | 3, _ => rfl
  | 4, _ => rfl
  | 5, _ => rfl
  | 6, _ => rfl
  | 7, _ => rfl
theorem sizeC : (Tryd.prog.info? 36).map (·.size) = some 10 := by kernel_rfl
theorem size_ccells (n : Nat) (f : Nat → Nat) (B : Nat) : (Tryd.prog.info? 36).map (·.size) = some (ccells n f B).size := by rw [ccells_size]; exact sizeC
theorem counter_cells {w : World} {g n B : Nat} {f : Nat → Nat} (hg : w.heap[g]? = some (.cells (ccells n f B) 36 (0, 0))) :
    w.cell? ⟨g, 0, none⟩ = some (.int .i64 (n : Int)) ∧ (∀ i, i < 8 → w.cell? ⟨g, 1 + i, none⟩ = some (.int .i64 (f i : Nat))) ∧ w.cell? ⟨g, 9, none⟩ = some (.map (some B)) ∧ (∀ i, w.frozen? ⟨g, i, none⟩ = false) ∧ g < w.heap.size :=
  ⟨by rw [cell_of_row _ _ _ _ _ _ hg]; rfl, fun i hi => by rw [cell_of_row _ _ _ _ _ _ hg]; exact ccells_at n f B i hi, by rw [cell_of_row _ _ _ _ _ _ hg]; rfl, fun i => frozen_of_row w g i _ _ hg, (Array.getElem?_eq_some_iff.1 hg).1⟩

/-- A whole block out of its place, inside a fence. -/
theorem load_counter_in {F : Fence} {m : Nat} {ops : Array Oper} {rest : List Oper} {o : Oper} {a : Act} {w : World} {Q : Exit → Act → World → Prop} (hgd : o.guard = none) (x : Operand) (ho : o.op = .load 36 x)
    (g : Nat) (n : Nat) (f : Nat → Nat) (B : Nat) (hx : a.eval x = .pointer (some ⟨g, 0, none⟩)) (hg : w.heap[g]? = some (.cells (ccells n f B) 36 (0, 0)))
    (h : wpListIn F m Tryd.prog ops Q rest (a.put o.dst (.agg (ccells n f B))) w) : wpListIn F m Tryd.prog ops Q (o :: rest) a w := by
  refine wpListIn_plain hgd fun K hK' => ?_
  unfold Oper.wpIn
  refine ⟨?_, ?_⟩
  · simp [Oper.about, ho]
  · rw [Oper.semAt_plain F _ _ (by rw [ho]; intro c hc'; cases hc')]
    unfold execOp
    simp only [ho, hx, Instr.loadAt, Instr.sureAddr, Sem.run_bind, Sem.run_pure, Result.andThen_ok, run_loadVar_row w g 36 36 (ccells n f B) (0, 0) _ hg Tryd.underlying36 rfl (size_ccells n f B)]
    exact hK' _ _ h

theorem new_nums (W : World) (g : Nat → Nat) (b : Nat) (hb : W.heap.size = b) : (W.alloc (.cells (ncells g) 40)).heap[b]? = some (.cells (ncells g) 40 (0, 0)) := by
  subst hb; exact World.alloc_heap_new _ _

theorem load_nums_in {F : Fence} {m : Nat} {ops : Array Oper} {rest : List Oper} {o : Oper} {a : Act} {w : World} {Q : Exit → Act → World → Prop} (hgd : o.guard = none) (x : Operand) (ho : o.op = .load 40 x)
    (b : Nat) (g : Nat → Nat) (hx : a.eval x = .pointer (some ⟨b, 0, none⟩)) (hg : w.heap[b]? = some (.cells (ncells g) 40 (0, 0)))
    (h : wpListIn F m Tryd.prog ops Q rest (a.put o.dst (.agg (ncells g))) w) : wpListIn F m Tryd.prog ops Q (o :: rest) a w := by
  refine wpListIn_plain hgd fun K hK' => ?_
  unfold Oper.wpIn
  refine ⟨?_, ?_⟩
  · simp [Oper.about, ho]
  · rw [Oper.semAt_plain F _ _ (by rw [ho]; intro c hc'; cases hc')]
    unfold execOp
    simp only [ho, hx, Instr.loadAt, Instr.sureAddr, Sem.run_bind, Sem.run_pure, Result.andThen_ok, run_loadVar_row w b 40 40 (ncells g) (0, 0) _ hg Tryd.underlying40 rfl (size_ncells g)]
    exact hK' _ _ h

theorem store_nums_in {F : Fence} {m : Nat} {ops : Array Oper} {rest : List Oper} {o : Oper} {a : Act} {w : World} {Q : Exit → Act → World → Prop} (hgd : o.guard = none) (x y : Operand) (ho : o.op = .store 40 x y)
    (b : Nat) (g : Nat → Nat) (hx : a.eval x = .pointer (some ⟨b, 0, none⟩)) (hy : a.eval y = .agg (ncells g)) (g0 : Nat → Nat)
    (hg : w.heap[b]? = some (.cells (ncells g0) 40 (0, 0)))
    (h : wpListIn F m Tryd.prog ops Q rest (a.put o.dst undef) (w.setRow b (ncells g))) : wpListIn F m Tryd.prog ops Q (o :: rest) a w := by
  refine wpListIn_plain hgd fun K hK' => ?_
  unfold Oper.wpIn
  refine ⟨?_, ?_⟩
  · simp [Oper.about, ho]
  · rw [Oper.semAt_plain F _ _ (by rw [ho]; intro c hc'; cases hc')]
    unfold execOp
    simp only [ho, hx, hy, Instr.storeAt, Instr.sureAddr, Sem.run_bind, Sem.run_pure, Result.andThen_ok, run_storeVar_row w b 40 40 (ncells g0) (ncells g) hg (size_ncells g) rfl (ncells_one g)]
    exact hK' _ _ h

/-- Five numbers into a block that was made last, with zeros. -/
theorem store_nums_new_in {F : Fence} {m : Nat} {ops : Array Oper} {rest : List Oper} {o : Oper} {a : Act} {w : World} {Q : Exit → Act → World → Prop} (hgd : o.guard = none) (x y : Operand) (ho : o.op = .store 40 x y)
    (g : Nat → Nat) (b : Nat) (hb : w.heap.size = b) (hx : a.eval x = .pointer (some ⟨b, 0, none⟩)) (hy : a.eval y = .agg (ncells g))
    (h : wpListIn F m Tryd.prog ops Q rest (a.put o.dst undef) (w.alloc (.cells (ncells g) 40))) :
    wpListIn F m Tryd.prog ops Q (o :: rest) a (w.alloc (.cells #[.int .i64 0, .int .i64 0, .int .i64 0, .int .i64 0, .int .i64 0] 40)) := by
  subst hb
  rw [ncells_zeros]
  refine store_nums_in hgd x y ho w.heap.size g hx hy (fun _ => 0) (World.alloc_heap_new w _) ?_
  rw [World.setRow_alloc_new]
  exact h

theorem ret_nums {fn : Func} {p : Tmp} (h : fn.results = #[.cell p 40]) (tmps : Array Value) (w : World) (b : Nat) (g : Nat → Nat)
    (hp : tmps.getD p undef = .pointer (some ⟨b, 0, none⟩)) (hg : w.heap[b]? = some (.cells (ncells g) 40 (0, 0))) :
    (results fn tmps).run Tryd.prog w = .ok (.agg (ncells g)) w :=
  results_cell_row h tmps w b 40 (ncells g) (0, 0) _ hp hg Tryd.underlying40 rfl (size_ncells g)

def numDatum (g : Nat → Nat) : DataW Unit := .agg [.lit (.int .i64 (g 0 : Nat)), .lit (.int .i64 (g 1 : Nat)), .lit (.int .i64 (g 2 : Nat)), .lit (.int .i64 (g 3 : Nat)), .lit (.int .i64 (g 4 : Nat))]
theorem numDatum_inj {g h : Nat → Nat} (e : numDatum g = numDatum h) : ncells g = ncells h := by
  simp only [numDatum, DataW.agg.injEq, List.cons.injEq, DataW.lit.injEq, Lit.int.injEq, and_true, true_and] at e
  obtain ⟨e0, e1, e2, e3, e4⟩ := e
  unfold ncells
  rw [e0, e1, e2, e3, e4]
theorem ncells_datum {g h : Nat → Nat} (e : ncells g = ncells h) : numDatum g = numDatum h := by
  have c : ∀ i, i < 5 → g i = h i := fun i hi => by
    have h1 := ncells_at g i hi
    rw [e, ncells_at h i hi] at h1
    simp at h1
    omega
  unfold numDatum
  rw [c 0 (by decide), c 1 (by decide), c 2 (by decide), c 3 (by decide), c 4 (by decide)]
open Classical in
/-- How five numbers read. -/
noncomputable def numElem (v : Value) : Option (DataW Unit × List MemPlace) :=
  if h : ∃ g : Nat → Nat, v = .agg (ncells g) then some (numDatum (Classical.choose h), []) else none
theorem numElem_mk (g : Nat → Nat) : numElem (.agg (ncells g)) = some (numDatum g, []) := by
  have h : ∃ g' : Nat → Nat, Value.agg (ncells g) = .agg (ncells g') := ⟨g, rfl⟩
  unfold numElem
  rw [dif_pos h]
  have := Classical.choose_spec h
  rw [ncells_datum (Value.agg.inj this).symm]
theorem numElem_inv {v : Value} {g : Nat → Nat} {ps : List MemPlace} (h : numElem v = some (numDatum g, ps)) : v = .agg (ncells g) := by
  unfold numElem at h
  split at h
  · rename_i hx
    simp only [Option.some.injEq, Prod.mk.injEq] at h
    rw [← numDatum_inj h.1]
    exact Classical.choose_spec hx
  · cases h

def kl (s : Nat) : Lit := .int .i64 (s : Int)
theorem keyOf_set {s : Nat} (hs : s < 256) : keyOf Tryd.prog 30 (.int .i64 (s : Int)) = some (kl s) := by
  have hw : (Lit.int .i64 (s : Int)).wf = true := by
    have h1 : IntKind.i64.min = -9223372036854775808 := by decide
    have h2 : IntKind.i64.max = 9223372036854775807 := by decide
    show (decide (IntKind.i64.min ≤ (s : Int)) && decide ((s : Int) ≤ IntKind.i64.max)) = true
    rw [h1, h2, Bool.and_eq_true, decide_eq_true_iff, decide_eq_true_iff]
    omega
  unfold keyOf mapKey
  simp [Tryd.underlying30, hw, kl]

/-- What is kept is right: block B is a map of at most m entries, from sets to their numbers. -/
def Memo (w : World) (B : Nat) (f : Nat → Nat) (m : Nat) : Prop :=
  ∃ D : DataW Unit, w.ownsMap Tryd.prog 30 numElem B m D ∧ Maps.IsMap D ∧ ∀ s, s < 256 → Maps.has D (kl s) = true → ∀ zd, D.atKey (kl s) zd = numDatum (nums f s)

theorem kl_ne {s t : Nat} (h : s ≠ t) : kl s ≠ kl t := by
  intro e
  simp only [kl, Lit.int.injEq, true_and] at e
  omega
theorem Memo.kept {w w' : World} {B m : Nat} {f : Nat → Nat} {row : Option Nat} (h : Memo w B f m) (hg : w.grownBy w' row) (hne : some B ≠ row) : Memo w' B f m := by
  obtain ⟨D, ho, hm, hs⟩ := h
  exact ⟨D, ho.kept hg hne, hm, hs⟩
theorem Memo.below {w w' : World} {B m : Nat} {f : Nat → Nat} (h : Memo w B f m) (hb : Below w.heap.size w w') : Memo w' B f m := h.kept (row := none) ⟨hb.os, hb.tape, hb.output, hb.size, fun k hk _ => hb.block k hk⟩ (by simp)
theorem Memo.mono {w : World} {B m m' : Nat} {f : Nat → Nat} (h : Memo w B f m) (hm : m ≤ m') : Memo w B f m' := by
  obtain ⟨D, ho, h2, hs⟩ := h
  exact ⟨D, ho.mono hm, h2, hs⟩
theorem Memo.lt {w : World} {B m : Nat} {f : Nat → Nat} (h : Memo w B f m) : B < w.heap.size := by
  obtain ⟨D, ho, _⟩ := h
  exact ho.lt
theorem Memo.made (w : World) (f : Nat → Nat) : Memo (w.alloc (.map #[] 0)) w.heap.size f 0 :=
  ⟨.map [], World.ownsMap_made w _ _ _, Maps.isMap_empty, fun s _ h => by cases h⟩
/-- What is right may be kept, too. -/
theorem Memo.put {w : World} {B m s : Nat} {f : Nat → Nat} {D : DataW Unit} (ho : w.ownsMap Tryd.prog 30 numElem B (m + 1) (D.put (kl s) (numDatum (nums f s)))) (hm : Maps.IsMap D)
    (hs : ∀ t, t < 256 → Maps.has D (kl t) = true → ∀ zd, D.atKey (kl t) zd = numDatum (nums f t)) : Memo w B f (m + 1) := by
  refine ⟨_, ho, hm.put _ _, fun t ht hh zd => ?_⟩
  by_cases e : t = s
  · subst e
    exact Maps.atKey_put_same hm (by simp [kl, WideAt.IsKeyLit]) _ _
  · rw [Maps.has_put_other (kl_ne e)] at hh
    rw [Maps.atKey_put_other (kl_ne e)]
    exact hs t ht hh zd

end Go.Proofs.YtbbnagkbbhbbgaaDoor

/-
  (impl.counter).of: the matching numbers of the nodes that are left; what was counted is kept in a map.
-/
namespace Go.Proofs.YtbbnagkbbhbbgaaDoor
set_option linter.unusedVariables false
set_option linter.unusedSimpArgs false
open Go.RowKit Go.Shelf
attribute [local go_sem] Oper.semAt_some

/-- What a call of (counter).of leaves. -/
def OfPost (w : World) (B : Nat) (f : Nat → Nat) (s m : Nat) (e : Ending) (w' : World) : Prop :=
  e = .returned (.agg (ncells (nums f s))) ∧ Memo w' B f m ∧ Within B (B + 1) w w'

theorem zeroMN : ∀ w : World, (zeroValue 40).run Tryd.prog w = .ok (.agg (ncells fun _ => 0)) w := fun _ => by kernel_rfl

/-- The boxes with which a call begins. -/
abbrev ofWorld (w : World) (n : Nat) (f : Nat → Nat) (B : Nat) : World := (w.alloc (.cells (ccells n f B) 36)).alloc (.cells (ncells fun _ => 0) 40)

set_option maxRecDepth 100000 in
set_option maxHeartbeats 4000000 in
theorem of_zero (n : Nat) (f : Nat → Nat) (w : World) (B m : Nat) (hM : Memo w B f m) :
    Calls Tryd.prog 21 #[.agg (ccells n f B), .int .i64 0] w (OfPost w B f 0 m) := by
  go_enter Tryd.func21, Tryd.ntmps21
  go_wp2
  have e : (#[Value.int .i64 1, Value.int .i64 0, Value.int .i64 0, Value.int .i64 0, Value.int .i64 0] : Array Value) = ncells (nums f 0) := rfl
  rw [e]
  have hb1 : Below w.heap.size w (w.alloc (.cells (ccells n f B) 36)) := (Below.refl _ _).alloc (Nat.le_refl _) _
  have hb2 := hb1.alloc (o := .cells (ncells (nums f 0)) 40) hb1.size
  refine bodyPost_ret (v := .agg (ncells (nums f 0))) (ret_nums rfl _ _ (w.heap.size + 1) (nums f 0) rfl ?_) rfl ⟨rfl, hM.below hb2, ?_⟩
  · have := World.alloc_heap_new (w.alloc (.cells (ccells n f B) 36)) (.cells (ncells (nums f 0)) 40)
    rwa [World.size_alloc] at this
  · exact ⟨hb2.os, hb2.tape, hb2.output, hb2.size, fun k hk _ => hb2.block k hk⟩

set_option maxRecDepth 100000 in
set_option maxHeartbeats 4000000 in
theorem of_hit (n : Nat) (f : Nat → Nat) (w : World) (B m s : Nat) (D : DataW Unit) (hM : Memo w B f m) (ho : w.ownsMap Tryd.prog 30 numElem B m D) (hh : Maps.has D (kl s) = true) (hval : ∀ zd, D.atKey (kl s) zd = numDatum (nums f s)) (hs : s < 256) (h0 : s ≠ 0) :
    Calls Tryd.prog 21 #[.agg (ccells n f B), .int .i64 (s : Int)] w (OfPost w B f s m) := by
  have hne : ((s : Int) == 0) = false := by rw [beq_eq_false_iff_ne]; omega
  have g9 : (ccells n f B)[9]? = some (.map (some B)) := rfl
  have HM := Lib.hid hM
  have HV := Lib.hid hval
  have HO := Lib.hid ho
  clear hval ho hM
  refine (callsIn_wide (n := 9)).1 ?_
  refine callsIn_of_wp_marks Tryd.func21 rfl trivial ?_ rfl
  simp only [Tryd.ntmps21, List.size_toArray, List.length_cons, List.length_nil, Nat.reduceAdd, Nat.reduceSub, Array.replicate_succ, Array.replicate_zero, List.push_toArray, List.append_toArray, List.nil_append, List.cons_append]
  have hres : ((ofWorld w n f B).alloc (.cells (ncells (nums f s)) 40)).heap[w.heap.size + 1]? = some (.cells (ncells fun _ => 0) 40 (0, 0)) := by
    rw [Below.heap_alloc _ _ _ (by simp)]
    have := World.alloc_heap_new (w.alloc (.cells (ccells n f B) 36)) (.cells (ncells fun _ => 0) 40)
    rwa [World.size_alloc] at this
  have HR := Lib.hid hres
  clear hres
  gi_wp2_with (first
    | (gi_at_lookup; refine wpListIn_lookup_own_ok _ rfl _ _ 34 rfl 30 40 (Maps.int_keyed Tryd.underlying30) Tryd.underlying34 numElem (zeroMN _) (numDatum fun _ => 0) [] (numElem_mk _) B m D rfl ((HO.out.alloc _).alloc _) _ (kl s) rfl (keyOf_set hs) ?_; intro v ps hv; rw [HV.out] at hv; obtain rfl := numElem_inv hv; clear hv)
    | (refine store_nums_new_in rfl _ _ rfl (nums f s) (w.heap.size + 1 + 1) (by simp) rfl rfl ?_)
    | (refine load_nums_in rfl _ rfl (w.heap.size + 1 + 1) (nums f s) rfl (new_nums _ _ _ (by simp)) ?_)
    | (refine store_nums_in rfl _ _ rfl (w.heap.size + 1) (nums f s) rfl rfl (fun _ => 0) HR.out ?_))
  have hb1 : Below w.heap.size w (w.alloc (.cells (ccells n f B) 36)) := (Below.refl _ _).alloc (Nat.le_refl _) _
  have hb2 := hb1.alloc (o := .cells (ncells fun _ => 0) 40) hb1.size
  have hb3 := hb2.alloc (o := .cells (ncells (nums f s)) 40) hb2.size
  have hb4 := below_setRow hb3 (g := w.heap.size + 1) (by omega) (ncells (nums f s))
  have hpost : OfPost w B f s m (.returned (.agg (ncells (nums f s)))) ((((w.alloc (.cells (ccells n f B) 36)).alloc (.cells (ncells fun _ => 0) 40)).alloc (.cells (ncells (nums f s)) 40)).setRow (w.heap.size + 1) (ncells (nums f s))) :=
    ⟨rfl, HM.out.below hb4, ⟨hb4.os, hb4.tape, hb4.output, hb4.size, fun k hk _ => hb4.block k hk⟩⟩
  exact ⟨_, ret_nums rfl _ _ (w.heap.size + 1) (nums f s) rfl (heap_setRow_same HR.out), rfl, hpost.2⟩

/-- How many calls may be made. -/
def cnt (s : Nat) : Nat := 10 ^ (bitsOf s).length

set_option maxHeartbeats 400000 in
theorem lowest_at (m : Nat) (hm : m < 256) (h0 : m ≠ 0) (w : World) (hT : Tab w) :
    Calls Tryd.prog 26 #[.int .i64 (m : Int)] w fun e w' => e = .returned (.int .i64 (((low m).val : Nat) : Int)) ∧ w = w' := by
  have H := Lib.hid (tz_any m hm h0 w hT)
  have hw : IntKind.u64.wrap (m : Int) = (m : Int) := by rw [IntKind.wrap_u64]; omega
  clear hT
  go_enter Tryd.func26, Tryd.ntmps26
  go_wp2_with (go_at_call 31; refine H.out.mono ?_; rintro e w' ⟨rfl, rfl⟩)
  go_ret
  exact ⟨rfl, rfl⟩

theorem Tab.within {w w' : World} {B : Nat} (h : Tab w) (hw : Within B (B + 1) w w') (hB : 1 < B) : Tab w' := fun i x hx =>
  (World.cell?_of_block (a := ⟨1, i, none⟩) (hw.block _ h.lt (.inl hB))).trans (h i x hx)

/-- What stands behind the first few numbers of one link. -/
def prt (f : Nat → Nat) (s : Nat) (pre : List (Fin 8)) (x : Fin 8) (k i : Nat) : Nat := nums f (rst s) i + tied f s pre i + if i ≠ 0 ∧ i ≤ k then nums f (wo (rst s) x.val) (i - 1) else 0
theorem prt_zero (f : Nat → Nat) (s : Nat) (pre : List (Fin 8)) (x : Fin 8) : ncells (prt f s pre x 0) = ncells fun i => nums f (rst s) i + tied f s pre i := ncells_congr fun i _ => by
  unfold prt
  rw [if_neg (by omega)]; rfl
theorem prt_all (f : Nat → Nat) (s : Nat) (pre : List (Fin 8)) (x : Fin 8) : ncells (prt f s pre x 5) = ncells fun i => nums f (rst s) i + tied f s (pre ++ [x]) i := ncells_congr fun i hi => by
  unfold prt
  rw [tied_snoc]
  by_cases h : i = 0
  · subst h; simp
  · rw [if_pos ⟨h, by omega⟩, if_neg h, Nat.add_assoc]
theorem prt_step (f : Nat → Nat) (s : Nat) (pre : List (Fin 8)) (x : Fin 8) (k : Nat) : upd (prt f s pre x k) (k + 1) (prt f s pre x k (k + 1) + nums f (wo (rst s) x.val) k) = prt f s pre x (k + 1) := by
  funext i
  unfold upd prt
  by_cases h : i = k + 1
  · subst h
    rw [if_pos rfl, if_neg (by omega), if_pos (by omega)]; rfl
  · rw [if_neg h]
    by_cases h2 : i ≠ 0 ∧ i ≤ k
    · rw [if_pos h2, if_pos (by omega)]
    · rw [if_neg h2, if_neg (by omega)]
theorem prt_same (f : Nat → Nat) (s : Nat) (pre : List (Fin 8)) (x : Fin 8) (k : Nat) (h : nums f (wo (rst s) x.val) k = 0) : ncells (prt f s pre x (k + 1)) = ncells (prt f s pre x k) := by
  rw [← prt_step, h, Nat.add_zero]
  refine ncells_congr fun i _ => ?_
  unfold upd
  split
  · rename_i e; rw [e, Nat.add_zero]
  · rfl

set_option maxRecDepth 100000 in
theorem index_nums (g : Nat → Nat) (k : Nat) (hk : k < 5) (W : World) : (Instr.index 40 (.agg (ncells g)) (.int .i64 (k : Int))).run Tryd.prog W = .ok (.int .i64 (g k : Nat)) W := by
  obtain rfl | rfl | rfl | rfl | rfl : k = 0 ∨ k = 1 ∨ k = 2 ∨ k = 3 ∨ k = 4 := by omega
  all_goals first | rfl | (unfold ncells; go_simp)

/-- How the loop over the links stands. -/
def Linked (w : World) (n : Nat) (f : Nat → Nat) (B m s N Nb : Nat) (pre : List (Fin 8)) (W : World) : Prop :=
  W.heap[Nb]? = some (.cells (ncells fun i => nums f (rst s) i + tied f s pre i) 40 (0, 0)) ∧ W.heap[N]? = some (.cells (ccells n f B) 36 (0, 0)) ∧
  W.heap[N + 1]? = some (.cells (ncells fun _ => 0) 40 (0, 0)) ∧ W.heap[N + 1 + 1 + 1]? = some (.cells #[.int .i64 ((rst s : Nat) : Int)] 30 (0, 0)) ∧
  Memo W B f (m + cnt (rst s) + pre.length * cnt (rst s)) ∧ Within B (B + 1) w W

theorem linked_own {w : World} {n B m s N Nb S : Nat} {f : Nat → Nat} (hN : N + 1 + 1 + 1 < S) (hNb : Nb < S) (hB : B < S) (hw : w.heap.size ≤ S) : OwnFrom S (Linked w n f B m s N Nb) := by
  intro pre X Y row hs hg hr
  obtain ⟨h1, h2, h3, h4, h5, h6⟩ := hs
  have kp : ∀ {b : Nat} {o : Obj}, b < S → X.heap[b]? = some o → Y.heap[b]? = some o := fun {b} {o} hb ho =>
    (hg.block b (Array.getElem?_eq_some_iff.1 ho).1 (fun e => by have := (hr b e.symm).1; omega)).trans ho
  refine ⟨kp hNb h1, kp (by omega) h2, kp (by omega) h3, kp hN h4, h5.kept hg (fun e => by have := (hr B e.symm).1; omega), ?_⟩
  exact ⟨hg.os.trans h6.os, hg.tape.trans h6.tape, hg.output.trans h6.output, Nat.le_trans h6.size hg.size,
    fun k hk ho => (hg.block k (Nat.lt_of_lt_of_le hk h6.size) (fun e => by have := (hr k e.symm).1; omega)).trans (h6.block k hk ho)⟩

end Go.Proofs.YtbbnagkbbhbbgaaDoor

/-
  One number of one link: what is added where.
-/
namespace Go.Proofs.YtbbnagkbbhbbgaaDoor
set_option linter.unusedVariables false
set_option linter.unusedSimpArgs false
open Go.RowKit Go.Shelf

theorem size_wo_le_all : ∀ (s : Fin 256) (v : Fin 8), (bitsOf (wo s.val v.val)).length ≤ (bitsOf s.val).length := by decide +kernel
theorem size_wo_le {s : Nat} (hs : s < 256) (v : Fin 8) : (bitsOf (wo s v.val)).length ≤ (bitsOf s).length := size_wo_le_all ⟨s, hs⟩ v
theorem cnt_wo_le {s : Nat} (hs : s < 256) (v : Fin 8) : cnt (wo s v.val) ≤ cnt s := Nat.pow_le_pow_right (by decide) (size_wo_le hs v)
theorem prt_small {f : Nat → Nat} {s : Nat} (hs : s < 256) {pre : List (Fin 8)} (hp : pre.length ≤ 8) (x : Fin 8) (k i : Nat) : prt f s pre x k i ≤ 430467210 := by
  have hr : rst s < 256 := Nat.lt_of_le_of_lt (wo_le _ _) hs
  have h1 := nums_small (f := f) hr i
  have h2 : tied f s pre i ≤ 8 * 43046721 := by
    unfold tied
    split
    · simp
    · refine Nat.le_trans (sum_map_le (b := 43046721) ?_) (Nat.mul_le_mul_right _ hp)
      intro w _
      exact nums_small (Nat.lt_of_le_of_lt (wo_le _ _) hr) _
  have h3 := nums_small (f := f) (Nat.lt_of_le_of_lt (wo_le (rst s) x.val) hr) (i - 1)
  unfold prt
  split <;> omega
theorem wrap_small {a : Nat} (h : a < 4294967296) : IntKind.i64.wrap (a : Int) = (a : Int) ∧ wrap64 (a : Int) = (a : Int) := by
  constructor
  · rw [IntKind.wrap_i64]; omega
  · unfold wrap64; omega
theorem wrap_sum {p q r : Nat} (hp : p ≤ 430467210) (hq : q ≤ 43046721) (hr : p + q = r) : IntKind.i64.wrap ((p : Int) + (q : Int)) = (r : Int) ∧ wrap64 ((p : Int) + (q : Int)) = (r : Int) := by
  have hI : (p : Int) + (q : Int) = (r : Int) := by omega
  have hN : r < 4294967296 := by omega
  rw [hI]
  exact wrap_small hN

/-- What the walk wants to know of one number that is added. -/
structure StepFacts (f : Nat → Nat) (s : Nat) (pre : List (Fin 8)) (x : Fin 8) (k j t b : Nat) (wr : World) (p q r : Nat) : Prop where
  num : nums f t k = q
  w1 : IntKind.i64.wrap ((p : Int) + (q : Int)) = (r : Int)
  w2 : wrap64 ((p : Int) + (q : Int)) = (r : Int)
  q0 : ((q : Int) == 0) = false
  q1 : ¬ (q : Int) = 0
  j5 : (j : Int) < 5
  idx : ∀ W, (Instr.index 40 (.agg (ncells (nums f t))) (.int .i64 (k : Int))).run Tryd.prog W = .ok (.int .i64 (q : Int)) W
  cell : wr.cell? ⟨b, j, none⟩ = some (.int .i64 (p : Int))
  frozen : wr.frozen? ⟨b, j, none⟩ = false
  set : (ncells (prt f s pre x k)).setIfInBounds j (.int .i64 (r : Int)) = ncells (prt f s pre x j)

theorem step_facts {f : Nat → Nat} {s : Nat} (hs : s < 256) {pre : List (Fin 8)} (hpre8 : pre.length < 8) {x : Fin 8} {k j t b : Nat} {wr : World} (ht : wo (rst s) x.val = t) (ht8 : t < 256) (hj : k + 1 = j) (hk4 : k < 4) (hz : ¬ nums f t k = 0)
    (hg : wr.heap[b]? = some (.cells (ncells (prt f s pre x k)) 40 (0, 0))) : ∃ p q r : Nat, StepFacts f s pre x k j t b wr p q r := by
  have hj5 : j < 5 := by omega
  have hjI : (j : Int) < 5 := by omega
  have hk5 : k < 5 := by omega
  have hq0 : ¬ ((nums f t k : Nat) : Int) = 0 := by omega
  refine ⟨prt f s pre x k j, nums f t k, prt f s pre x k j + nums f t k, rfl, (wrap_sum (prt_small hs (Nat.le_of_lt hpre8) x k j) (nums_small ht8 k) rfl).1, (wrap_sum (prt_small hs (Nat.le_of_lt hpre8) x k j) (nums_small ht8 k) rfl).2, ?_, hq0, hjI, fun W => index_nums _ _ hk5 W, ?_, frozen_of_row wr b j _ _ hg, ?_⟩
  · rw [beq_eq_false_iff_ne]; exact hq0
  · rw [cell_of_row _ _ _ _ _ _ hg, ncells_at _ j hj5]
  · rw [ncells_set _ j _ hj5, ← hj, ← ht, prt_step]

end Go.Proofs.YtbbnagkbbhbbgaaDoor

