/-
  impl.readSet, (graph).isCover, impl.CoverIn: a graph and a set of its nodes; whether it is a cover.
-/
import Derived.Test.YtcklinoiaiilgabDoorPartOf
import Derived.Test.YtcklinoiaiilgabDoorFrom
import Derived.Test.YtcklinoiaiilgabDoorSpecCover
import Derived.Deep.QuietTactic
import Derived.BigQuiet
namespace Go.Proofs.YtcklinoiaiilgabDoor
set_option linter.unusedVariables false
set_option linter.unusedSimpArgs false
open Go.RowKit

abbrev gzeros : Array Value := #[.int .i64 0, .int .i64 0, .int .i64 0, .int .i64 0, .int .i64 0, .int .i64 0, .int .i64 0, .int .i64 0, .int .i64 0]
theorem ret_graph3 {fn : Func} {p u v : Tmp} (h : fn.results = #[.cell p 55, .tmp u, .tmp v]) (tmps : Array Value) (w : World) (g n : Nat) (f : Nat → Nat) (x y : Value)
    (hp : tmps.getD p undef = .pointer (some ⟨g, 0, none⟩)) (hx : tmps.getD u undef = x) (hy : tmps.getD v undef = y) (hg : w.heap[g]? = some (.cells (gcells n f) 55 (0, 0))) :
    (results fn tmps).run Tryd.prog w = .ok (.tuple #[.agg (gcells n f), x, y]) w := by
  subst hx
  subst hy
  have hl := run_loadVar_row (P := Tryd.prog) w g 55 55 (gcells n f) (0, 0) _ hg Tryd.underlying55 rfl (size_gcells n f)
  have hp2 : tmps[p]?.getD undef = .pointer (some ⟨g, 0, none⟩) := by simpa using hp
  simp only [results, h]
  simp [Sem.run_bind, Result.andThen, hp2, asAddr, hl]

theorem run_mkgraph (W : World) : (Instr.build 55 #[]).run Tryd.prog W = .ok (.agg (gcells 0 fun _ => 0)) W := run_build W 55 _ _ (by kernel_rfl)

set_option maxRecDepth 100000 in
set_option maxHeartbeats 2000000 in
theorem readSet_yes (w : World) (v : Value) (xs : List Int) (h : Ints w v xs) (hr : ∀ x ∈ xs, I64 x) (hT : Tab w) (hg : gIn xs = true) (a : Nat) (ha : a < 2 ^ xs.length) :
    Calls Tryd.prog 95 #[v, .int .i64 (a : Int)] w fun e w' => e = .returned (.tuple #[.agg (gcells xs.length (gfun xs)), .int .i64 (a : Int), .bool true]) ∧ Below w.heap.size w w' := by
  obtain ⟨h1, h8, hok⟩ := gIn_parts hg
  have hfr : fromOf xs = gcells xs.length (gfun xs) := by simp [fromOf, hg]
  have hb0 : Below w.heap.size w (w.alloc (.cells gzeros 55)) := (Below.refl _ _).alloc (Nat.le_refl _) _
  have hf := from_any (w.alloc (.cells gzeros 55)) v xs (h.below hb0) hr (hT.later hb0)
  have hz := World.alloc_heap_new w (.cells gzeros 55)
  obtain ⟨W0, hW0⟩ : ∃ W0, w.alloc (.cells gzeros 55) = W0 := ⟨_, rfl⟩
  have hsz0 : W0.heap.size = w.heap.size + 1 := by rw [← hW0]; simp
  rw [hW0] at hf hb0 hz
  rw [hg, hfr] at hf
  have hno := nodes_any xs.length (gfun xs) h8
  have hout := outside_zero (a : Int) xs.length (by omega) (by have := pow8_le (v := xs.length) (by omega); omega) (by have := pow8_le (v := xs.length) (by omega); omega)
  have hin : decide (0 ≤ (a : Int) ∧ (a : Int) < ((2 ^ xs.length : Nat) : Int)) = true := decide_eq_true ⟨by omega, by exact_mod_cast ha⟩
  rw [hin, Bool.not_true] at hout
  have HF := Lib.hid hf
  have HNO := Lib.hid hno
  clear hf hfr hT hr h hin hok hno
  go_enter Tryd.func95, Tryd.ntmps95
  go_wp2_with (first
    | (go_at_call 84; refine HF.out.mono ?_; rintro e w1 ⟨rfl, hb1⟩)
    | (refine store_graph_new rfl _ _ rfl xs.length (gfun xs) rfl rfl ?_; obtain ⟨c0, cs, _, _⟩ := graph_cells (World.alloc_heap_new w1 (.cells (gcells xs.length (gfun xs)) 55)); have c1 := cs 0 (by decide); have c2 := cs 1 (by decide); have c3 := cs 2 (by decide); have c4 := cs 3 (by decide); have c5 := cs 4 (by decide); have c6 := cs 5 (by decide); have c7 := cs 6 (by decide); have c8 := cs 7 (by decide); clear cs)
    | (go_at_call 106; refine (HNO.out _).mono ?_; rintro e w2 ⟨rfl, rfl⟩)
    | (refine load_graph rfl _ rfl _ xs.length (gfun xs) rfl ((Below.heap_alloc _ _ _ (by simp)).trans (World.alloc_heap_new _ _)) ?_)
    | (refine store_graph rfl _ _ rfl w.heap.size xs.length (gfun xs) rfl rfl 0 (fun _ => 0) ?hs ?_))
  case hs =>
    have hs1 := hb1.size
    rw [Below.heap_alloc _ _ _ (by simp; omega), Below.heap_alloc _ _ _ (by omega)]
    exact (hb1.block _ (by omega)).trans hz
  have hs1 := hb1.size
  have hz3 : ((w1.alloc (.cells (gcells xs.length (gfun xs)) 55)).alloc (.cells (gcells xs.length (gfun xs)) 55)).heap[w.heap.size]? = some (.cells gzeros 55 (0, 0)) := by
    rw [Below.heap_alloc _ _ _ (by simp; omega), Below.heap_alloc _ _ _ (by omega)]
    exact (hb1.block _ (by omega)).trans hz
  refine bodyPost_ret (v := .tuple #[.agg (gcells xs.length (gfun xs)), .int .i64 (a : Int), .bool true]) (ret_graph3 rfl _ _ w.heap.size _ _ _ _ rfl rfl rfl (heap_setRow_same hz3)) rfl ⟨rfl, below_setRow ?_ (Nat.le_refl _) _⟩
  exact (((hb0.trans (hb1.mono (by omega))).alloc (by omega) _).alloc (by simp; omega) _)

theorem build_graph0 {ops : Array Oper} {rest : List Oper} {o : Oper} {a : Act} {w : World} {Q : Exit → Act → World → Prop} (hgd : o.guard = none) (ho : o.op = .build 55 #[])
    (h : wpList Tryd.prog ops Q rest (a.put o.dst (.agg (gcells 0 fun _ => 0))) w) : wpList Tryd.prog ops Q (o :: rest) a w := by
  refine wpList_plain hgd fun K hK' => ?_
  unfold Oper.wp
  simp only [execOp, ho, List.map_toArray, List.map_cons, List.map_nil, run_mkgraph, Result.andThen, Sem.run_bind, Sem.run_pure]
  exact hK' _ _ h

set_option maxRecDepth 100000 in
set_option maxHeartbeats 2000000 in
theorem readSet_no (w : World) (v : Value) (xs : List Int) (h : Ints w v xs) (hr : ∀ x ∈ xs, I64 x) (hT : Tab w) (a : Int) (ha : I64 a) (hn : (gIn xs && decide (0 ≤ a ∧ a < ((2 ^ xs.length : Nat) : Int))) = false) :
    Calls Tryd.prog 95 #[v, .int .i64 a] w fun e w' => e = .returned (.tuple #[.agg (gcells 0 fun _ => 0), .int .i64 0, .bool false]) ∧ Below w.heap.size w w' := by
  have hb0 : Below w.heap.size w (w.alloc (.cells gzeros 55)) := (Below.refl _ _).alloc (Nat.le_refl _) _
  have hf := from_any (w.alloc (.cells gzeros 55)) v xs (h.below hb0) hr (hT.later hb0)
  have hz := World.alloc_heap_new w (.cells gzeros 55)
  obtain ⟨W0, hW0⟩ : ∃ W0, w.alloc (.cells gzeros 55) = W0 := ⟨_, rfl⟩
  have hsz0 : W0.heap.size = w.heap.size + 1 := by rw [← hW0]; simp
  rw [hW0] at hf hb0 hz
  cases hg : gIn xs with
  | false =>
    have hfr : fromOf xs = gcells 0 (fun _ => 0) := by simp [fromOf, hg]
    rw [hg, hfr] at hf
    have HF := Lib.hid hf
    clear hf hfr hT hr h hg hn
    go_enter Tryd.func95, Tryd.ntmps95
    go_wp2_with (first
      | (go_at_call 84; refine HF.out.mono ?_; rintro e w1 ⟨rfl, hb1⟩)
      | (refine store_graph_new rfl _ _ rfl 0 (fun _ => 0) rfl rfl ?_)
      | (refine build_graph0 rfl rfl ?_)
      | (refine store_graph rfl _ _ rfl w.heap.size 0 (fun _ => 0) rfl rfl 0 (fun _ => 0) ?hs ?_))
    case hs =>
      have hs1 := hb1.size
      rw [Below.heap_alloc _ _ _ (by omega)]
      exact (hb1.block _ (by omega)).trans hz
    have hs1 := hb1.size
    have hz3 : (w1.alloc (.cells (gcells 0 fun _ => 0) 55)).heap[w.heap.size]? = some (.cells gzeros 55 (0, 0)) := by
      rw [Below.heap_alloc _ _ _ (by omega)]
      exact (hb1.block _ (by omega)).trans hz
    refine bodyPost_ret (v := .tuple #[.agg (gcells 0 fun _ => 0), .int .i64 0, .bool false]) (ret_graph3 rfl _ _ w.heap.size _ _ _ _ rfl rfl rfl (heap_setRow_same hz3)) rfl ⟨rfl, below_setRow ?_ (Nat.le_refl _) _⟩
    exact ((hb0.trans (hb1.mono (by omega))).alloc (by omega) _)
  | true =>
    obtain ⟨h1, h8, hok⟩ := gIn_parts hg
    have hfr : fromOf xs = gcells xs.length (gfun xs) := by simp [fromOf, hg]
    rw [hg, hfr] at hf
    rw [hg, Bool.true_and] at hn
    have hno := nodes_any xs.length (gfun xs) h8
    have hout := outside_zero a xs.length (by omega) ha.1 ha.2
    rw [hn, Bool.not_false] at hout
    have HF := Lib.hid hf
    have HNO := Lib.hid hno
    clear hf hfr hT hr h hn hok hno hg
    go_enter Tryd.func95, Tryd.ntmps95
    go_wp2_with (first
      | (go_at_call 84; refine HF.out.mono ?_; rintro e w1 ⟨rfl, hb1⟩)
      | (refine store_graph_new rfl _ _ rfl xs.length (gfun xs) rfl rfl ?_; obtain ⟨c0, cs, _, _⟩ := graph_cells (World.alloc_heap_new w1 (.cells (gcells xs.length (gfun xs)) 55)); have c1 := cs 0 (by decide); have c2 := cs 1 (by decide); have c3 := cs 2 (by decide); have c4 := cs 3 (by decide); have c5 := cs 4 (by decide); have c6 := cs 5 (by decide); have c7 := cs 6 (by decide); have c8 := cs 7 (by decide); clear cs)
      | (go_at_call 106; refine (HNO.out _).mono ?_; rintro e w2 ⟨rfl, rfl⟩)
      | (refine build_graph0 rfl rfl ?_)
      | (refine store_graph rfl _ _ rfl w.heap.size 0 (fun _ => 0) rfl rfl 0 (fun _ => 0) ?hs ?_))
    case hs =>
      have hs1 := hb1.size
      rw [Below.heap_alloc _ _ _ (by simp; omega), Below.heap_alloc _ _ _ (by omega)]
      exact (hb1.block _ (by omega)).trans hz
    have hs1 := hb1.size
    have hz3 : ((w1.alloc (.cells (gcells xs.length (gfun xs)) 55)).alloc (.cells (gcells xs.length (gfun xs)) 55)).heap[w.heap.size]? = some (.cells gzeros 55 (0, 0)) := by
      rw [Below.heap_alloc _ _ _ (by simp; omega), Below.heap_alloc _ _ _ (by omega)]
      exact (hb1.block _ (by omega)).trans hz
    refine bodyPost_ret (v := .tuple #[.agg (gcells 0 fun _ => 0), .int .i64 0, .bool false]) (ret_graph3 rfl _ _ w.heap.size _ _ _ _ rfl rfl rfl (heap_setRow_same hz3)) rfl ⟨rfl, below_setRow ?_ (Nat.le_refl _) _⟩
    exact (((hb0.trans (hb1.mono (by omega))).alloc (by omega) _).alloc (by simp; omega) _)

end Go.Proofs.YtcklinoiaiilgabDoor
