/-
  impl.counterOf, impl.readCounter: a counter, with a map of its own.
-/
import Derived.Test.YtbbnagkbbhbbgaaDoorCount1
import Derived.Test.YtbbnagkbbhbbgaaDoorCore2
import Derived.Carry
namespace Go.Proofs.YtbbnagkbbhbbgaaDoor
set_option linter.unusedVariables false
set_option linter.unusedSimpArgs false
open Go.RowKit

theorem load_counter {ops : Array Oper} {rest : List Oper} {o : Oper} {a : Act} {w : World} {Q : Exit → Act → World → Prop} (hgd : o.guard = none) (x : Operand) (ho : o.op = .load 36 x)
    (g : Nat) (n : Nat) (f : Nat → Nat) (B : Nat) (hx : a.eval x = .pointer (some ⟨g, 0, none⟩)) (hg : w.heap[g]? = some (.cells (ccells n f B) 36 (0, 0)))
    (h : wpList Tryd.prog ops Q rest (a.put o.dst (.agg (ccells n f B))) w) : wpList Tryd.prog ops Q (o :: rest) a w :=
  wpList_load_row hgd 36 x ho g hx 36 (ccells n f B) (0, 0) _ hg Tryd.underlying36 rfl (size_ccells n f B) h

theorem ccells_one (n : Nat) (f : Nat → Nat) (B : Nat) : (ccells n f B).all (·.oneCell') = true := by simp [ccells, Value.oneCell']

/-- A whole counter into a block that holds another one, or zeros. -/
theorem store_counter {ops : Array Oper} {rest : List Oper} {o : Oper} {a : Act} {w : World} {Q : Exit → Act → World → Prop} (hgd : o.guard = none) (x y : Operand) (ho : o.op = .store 36 x y)
    (g : Nat) (n : Nat) (f : Nat → Nat) (B : Nat) (hx : a.eval x = .pointer (some ⟨g, 0, none⟩)) (hy : a.eval y = .agg (ccells n f B)) (c0 : Array Value) (hc0 : c0.size = 10)
    (hg : w.heap[g]? = some (.cells c0 36 (0, 0)))
    (h : wpList Tryd.prog ops Q rest (a.put o.dst undef) (w.setRow g (ccells n f B))) : wpList Tryd.prog ops Q (o :: rest) a w :=
  wpList_store_row hgd 36 x y ho g (ccells n f B) hx hy 36 c0 hg (size_ccells n f B) (by rw [hc0]; rfl) (ccells_one n f B) h

abbrev czeros : Array Value := #[.int .i64 0, .int .i64 0, .int .i64 0, .int .i64 0, .int .i64 0, .int .i64 0, .int .i64 0, .int .i64 0, .int .i64 0, .map none]
theorem store_counter_new {ops : Array Oper} {rest : List Oper} {o : Oper} {a : Act} {w : World} {Q : Exit → Act → World → Prop} (hgd : o.guard = none) (x y : Operand) (ho : o.op = .store 36 x y)
    (n : Nat) (f : Nat → Nat) (B : Nat) (hx : a.eval x = .pointer (some ⟨w.heap.size, 0, none⟩)) (hy : a.eval y = .agg (ccells n f B))
    (h : wpList Tryd.prog ops Q rest (a.put o.dst undef) (w.alloc (.cells (ccells n f B) 36))) :
    wpList Tryd.prog ops Q (o :: rest) a (w.alloc (.cells czeros 36)) := by
  refine store_counter hgd x y ho w.heap.size n f B hx hy czeros rfl (World.alloc_heap_new w _) ?_
  rw [World.setRow_alloc_new]
  exact h

theorem run_mkmap (W : World) : (Instr.makeMap 34 none).run Tryd.prog W = .ok (.map (some W.heap.size)) (W.alloc (.map #[] 0)) := run_makeMap 34 W
theorem run_mkcounter (n : Nat) (f : Nat → Nat) (B : Nat) (W : World) : (Instr.build 36 #[(0, .agg (gcells n f)), (1, .map (some B))]).run Tryd.prog W = .ok (.agg (ccells n f B)) W := run_build W 36 _ _ (by kernel_rfl)

theorem make_map {ops : Array Oper} {rest : List Oper} {o : Oper} {a : Act} {w : World} {Q : Exit → Act → World → Prop} (hgd : o.guard = none) (ho : o.op = .makeMap 34 none)
    (h : wpList Tryd.prog ops Q rest (a.put o.dst (.map (some w.heap.size))) (w.alloc (.map #[] 0))) : wpList Tryd.prog ops Q (o :: rest) a w := by
  refine wpList_plain hgd fun K hK' => ?_
  unfold Oper.wp
  simp only [execOp, ho, Option.map_none, run_mkmap, Result.andThen, Sem.run_bind, Sem.run_pure]
  exact hK' _ _ h

theorem build_counter {ops : Array Oper} {rest : List Oper} {o : Oper} {a : Act} {w : World} {Q : Exit → Act → World → Prop} (hgd : o.guard = none) (x y : Operand) (ho : o.op = .build 36 #[(0, x), (1, y)])
    (n : Nat) (f : Nat → Nat) (B : Nat) (hx : a.eval x = .agg (gcells n f)) (hy : a.eval y = .map (some B))
    (h : wpList Tryd.prog ops Q rest (a.put o.dst (.agg (ccells n f B))) w) : wpList Tryd.prog ops Q (o :: rest) a w := by
  refine wpList_plain hgd fun K hK' => ?_
  unfold Oper.wp
  simp only [execOp, ho, List.map_toArray, List.map_cons, List.map_nil, hx, hy, run_mkcounter, Result.andThen, Sem.run_bind, Sem.run_pure]
  exact hK' _ _ h

theorem ret_counter {fn : Func} {p : Tmp} (h : fn.results = #[.cell p 36]) (tmps : Array Value) (w : World) (g n : Nat) (f : Nat → Nat) (B : Nat)
    (hp : tmps.getD p undef = .pointer (some ⟨g, 0, none⟩)) (hg : w.heap[g]? = some (.cells (ccells n f B) 36 (0, 0))) :
    (results fn tmps).run Tryd.prog w = .ok (.agg (ccells n f B)) w :=
  results_cell_row h tmps w g 36 (ccells n f B) (0, 0) _ hp hg Tryd.underlying36 rfl (size_ccells n f B)
theorem ret_counter2 {fn : Func} {p u : Tmp} (h : fn.results = #[.cell p 36, .tmp u]) (tmps : Array Value) (w : World) (g n : Nat) (f : Nat → Nat) (B : Nat) (v : Value)
    (hp : tmps.getD p undef = .pointer (some ⟨g, 0, none⟩)) (hv : tmps.getD u undef = v) (hg : w.heap[g]? = some (.cells (ccells n f B) 36 (0, 0))) :
    (results fn tmps).run Tryd.prog w = .ok (.tuple #[.agg (ccells n f B), v]) w := by
  subst hv
  rw [results_cell_tmp h tmps Tryd.prog w, hp]
  simp only [asAddr, Sem.run_pure, Result.andThen]
  rw [run_loadVar_row w g 36 36 (ccells n f B) (0, 0) _ hg Tryd.underlying36 rfl (size_ccells n f B)]
theorem setRow_grown (W : World) (b : Nat) (c : Array Value) : W.grownBy (W.setRow b c) (some b) := ⟨rfl, rfl, rfl, by simp [World.setRow], fun k _ hk => heap_setRow_other _ _ _ _ (fun e => hk (by rw [e]))⟩

set_option maxRecDepth 100000 in
set_option maxHeartbeats 400000 in
theorem counterOf_any (n : Nat) (f : Nat → Nat) (w : World) :
    Calls Tryd.prog 20 #[.agg (gcells n f)] w fun e w' => ∃ B, e = .returned (.agg (ccells n f B)) ∧ w.heap.size ≤ B ∧ Below w.heap.size w w' ∧ Memo w' B f 0 := by
  go_enter Tryd.func20, Tryd.ntmps20
  go_wp2_with (first
    | (refine load_graph rfl _ rfl _ n f rfl ((Below.heap_alloc _ _ _ (by simp)).trans (World.alloc_heap_new _ _)) ?_)
    | (refine make_map rfl rfl ?_; refine build_counter rfl _ _ rfl n f _ rfl rfl ?_)
    | (refine store_counter rfl _ _ rfl (w.heap.size + 1) n f (w.heap.size + 2) rfl ?hy czeros rfl ?hg ?_))
  case hg => rw [Below.heap_alloc _ _ _ (by simp)]; exact heap_alloc2_new _ _ _
  obtain ⟨W2, hW2⟩ : ∃ W2, (w.alloc (.cells (gcells n f) 33)).alloc (.cells czeros 36) = W2 := ⟨_, rfl⟩
  have hs2 : W2.heap.size = w.heap.size + 2 := by rw [← hW2]; simp
  have hb2 : Below w.heap.size w W2 := by rw [← hW2]; exact ((Below.refl _ _).alloc (Nat.le_refl _) _).alloc (by simp) _
  have hc2 : W2.heap[w.heap.size + 1]? = some (.cells czeros 36 (0, 0)) := by rw [← hW2]; exact heap_alloc2_new _ _ _
  rw [hW2]
  have hM := Memo.made W2 f
  rw [hs2] at hM
  refine bodyPost_ret (v := .agg (ccells n f (w.heap.size + 2))) (ret_counter rfl _ _ (w.heap.size + 1) n f _ rfl (heap_setRow_same ((Below.heap_alloc _ _ _ (by omega)).trans hc2))) rfl ⟨_, rfl, by omega, ?_, ?_⟩
  · exact below_setRow (hb2.alloc (by omega) _) (by omega) _
  · exact hM.kept (setRow_grown _ _ _) (by simp)

set_option maxRecDepth 100000 in
set_option maxHeartbeats 1000000 in
theorem readC_any (w : World) (v : Value) (xs : List Int) (h : Ints w v xs) (hr : ∀ x ∈ xs, I64 x) (hT : Tab w) (n : Nat) (f : Nat → Nat) (hs : fromOf xs = gcells n f) :
    Calls Tryd.prog 12 #[v] w fun e w' => ∃ B, e = .returned (.tuple #[.agg (ccells n f B), .bool (gIn xs)]) ∧ w.heap.size ≤ B ∧ Below w.heap.size w w' ∧ Memo w' B f 0 := by
  have hb0 : Below w.heap.size w (w.alloc (.cells czeros 36)) := (Below.refl _ _).alloc (Nat.le_refl _) _
  have hf := from_any (w.alloc (.cells czeros 36)) v xs (h.below hb0) hr (hT.later hb0)
  have hz := World.alloc_heap_new w (.cells czeros 36)
  obtain ⟨W0, hW0⟩ : ∃ W0, w.alloc (.cells czeros 36) = W0 := ⟨_, rfl⟩
  have hsz0 : W0.heap.size = w.heap.size + 1 := by rw [← hW0]; simp
  rw [hW0] at hf hb0 hz
  rw [hs] at hf
  have HF := Lib.hid hf
  clear hf hs hT hr h
  go_enter Tryd.func12, Tryd.ntmps12
  go_wp2_with (first
    | (go_at_call 19; refine HF.out.mono ?_; rintro e w1 ⟨rfl, hb1⟩)
    | (refine store_graph_new rfl _ _ rfl n f rfl rfl ?_)
    | (refine load_graph rfl _ rfl _ n f rfl (World.alloc_heap_new _ _) ?_)
    | (go_at_call 20; refine (counterOf_any n f _).mono ?_; rintro e w2 ⟨B, rfl, hB, hb2, hM2⟩)
    | (refine store_counter rfl _ _ rfl w.heap.size n f B rfl rfl czeros rfl ?hg ?_))
  case hg =>
    have h1 := (hb1.block w.heap.size (by omega)).trans hz
    have hs1 := hb1.size
    exact (hb2.block _ (by simp; omega)).trans ((Below.heap_alloc _ _ _ (by omega)).trans h1)
  have hs1 := hb1.size
  have h1 := (hb1.block w.heap.size (by omega)).trans hz
  rw [World.size_alloc] at hB
  have hz2 := (hb2.block w.heap.size (by simp; omega)).trans ((Below.heap_alloc w1 (.cells (gcells n f) 33) _ (by omega)).trans h1)
  have hbw : Below w.heap.size w w2 := ((hb0.trans (hb1.mono (by omega))).alloc (by omega) _).trans (hb2.mono (by simp; omega))
  refine bodyPost_ret (v := .tuple #[.agg (ccells n f B), .bool (gIn xs)]) (ret_counter2 rfl _ _ w.heap.size n f B _ rfl rfl (heap_setRow_same hz2)) rfl ⟨B, rfl, by omega, ?_, ?_⟩
  · exact below_setRow hbw (Nat.le_refl _) _
  · exact hM2.kept (setRow_grown _ _ _) (by simp; omega)

end Go.Proofs.YtbbnagkbbhbbgaaDoor
