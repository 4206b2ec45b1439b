/-
  Core2: All Neigh In Marks GraphsIn Mutual Bare From SpecIn.
-/
import Derived.Test.YtbbnagkbbhbbgaaDoorCore1
import Derived.RangeFuncNested
import Derived.RangeFuncBound
import Derived.RangeFuncCalls
import Derived.RangeFuncLeaves
import Derived.Shelf.Abstract
import Derived.Shelf.RegionOpen
import Derived.OwnWalkIn
import Derived.TacticsInMore
import Derived.LoopNIn
import Derived.LoopIn
import Derived.Deep.QuietTactic
import Derived.BigQuiet
/-
  (nodeSet).all: THE ITERATOR OVER A SET's NODES: for every loop body that leaves what lay below n₀ as it was.
-/
namespace Go.Proofs.YtbbnagkbbhbbgaaDoor
set_option linter.unusedVariables false
set_option linter.unusedSimpArgs false
open Go.RowKit Go.Shelf

attribute [local go_sem] Oper.semAt_some

theorem next_and (m : Nat) (hm : m < 256) (h0 : m ≠ 0) : bits .and .u64 (m : Int) ((m : Int) - 1) = ((m &&& (m - 1) : Nat) : Int) := by
  have e : (m : Int) - 1 = ((m - 1 : Nat) : Int) := by omega
  rw [e, bits_and_u64_nat _ _ (by omega) (by omega)]

set_option maxRecDepth 100000 in
set_option maxHeartbeats 1000000 in
theorem all1_in (n : Nat) (hn : 1 ≤ n) (l Bn n₀ : Nat) (m : Nat) (hm : m < 256) (hn₀ : 1 < n₀) (J Jx : List (Fin 8) → World → Prop)
    (hY : ∀ pre x W, J pre W → pre.length < (bitsOf m).length → YieldAt Fence.wide (n - 1) Tryd.prog l #[.int .i64 ((x : Fin 8).val : Int)] W fun e W' =>
      (e = .returned (.bool true) ∧ J (pre ++ [x]) W' ∧ Below n₀ W W') ∨ (e = .returned (.bool false) ∧ Jx (pre ++ [x]) W'))
    (W : World) (hBn : W.cell? ⟨Bn, 0, none⟩ = some (.int .i64 (m : Int))) (hT : Tab W) (h0 : J [] W) :
    CallsIn Fence.wide n Tryd.prog 32 #[.func (.yield l) #[] #[], .pointer (some ⟨Bn, 0, none⟩)] W fun e W' => (∃ v, e = .returned v) ∧
      ((∃ ys, ys = bitsOf m ∧ J ys W') ∨ (∃ pre, pre <+: bitsOf m ∧ Jx pre W')) := by
  refine callsIn_of_wp Tryd.func32 rfl trivial ?_ rfl
  simp only [Tryd.ntmps32, List.size_toArray, List.length_cons, List.length_nil, Nat.reduceAdd, Nat.reduceSub, Array.replicate_succ, Array.replicate_zero, List.push_toArray, List.append_toArray, List.nil_append, List.cons_append]
  gi_wp2
  gi_loopw [3] (fun p wr => ∃ (pre : List (Fin 8)) (q : Nat), p = .int .u64 (q : Int) ∧ q < 256 ∧ bitsOf m = pre ++ bitsOf q ∧ J pre wr ∧ Tab wr)
    (fun p _ => (intOf p).toNat)
  case atStart =>
    exact ⟨[], m, by first | rfl | skip, hm, rfl, h0, hT⟩
  case round =>
    obtain ⟨pre, q, rfl, hq, hx, hJs, hTs⟩ := hrel
    by_cases hq0 : q = 0
    · subst hq0
      have HX := Lib.hid hx
      clear hx
      gi_wp2
      go_end0
      exact ⟨⟨_, rfl⟩, .inl ⟨pre, by rw [HX.out, bitsOf_zero, List.append_nil], hJs⟩⟩
    · have hc := bitsOf_cons hq hq0
      have hlen : pre.length < (bitsOf m).length := by rw [hx, hc]; simp
      obtain ⟨fn, tmps, assign, body, hy, hR⟩ := hY pre (low q) wr hJs hlen
      have hne : ((q : Int) != 0) = true := by simp; exact hq0
      have hz := tz_any q hq hq0 wr hTs
      have HZ := Lib.hid hz
      have HX := Lib.hid hx
      have HC := Lib.hid hc
      have HT := Lib.hid hTs
      have hnx := next_and q hq hq0
      have hpos : 1 ≤ q := by omega
      clear hz hx hc hTs
      gi_wp2_with (refine ⟨trivial, ?_⟩; gi_at_call 31; refine (callsIn_wide.2 HZ.out).mono ?_; rintro e w' ⟨rfl, rfl⟩)
      refine hR.mono ?_
      rintro e W3 (⟨rfl, hJ3, hk3⟩ | ⟨rfl, hJx3⟩)
      · gi_wp2
        go_roundw
        case rel => exact ⟨pre ++ [low q], q &&& (q - 1), by first | rfl | skip, next_lt hq, by rw [HX.out, HC.out]; simp, hJ3, HT.out.below hk3 hn₀⟩
        case measure =>
          simp only [intOf, Int.toNat_natCast]
          exact Nat.lt_of_le_of_lt Nat.and_le_right (by omega)
      · gi_wp2
        refine bodyPost_ret (results_none rfl _ _ _) rfl ?_
        exact ⟨⟨_, rfl⟩, .inr ⟨pre ++ [low q], ⟨bitsOf (q &&& (q - 1)), by rw [HX.out, HC.out]; simp⟩, hJx3⟩⟩

/-- The value that hands out a set's nodes, the set in block Bn. -/
abbrev seqOf (Bn : Nat) : Value := .func (.func 32) #[] #[.pointer (some ⟨Bn, 0, none⟩)]

theorem all_stops (n : Nat) (hn : 1 ≤ n) (Bn n₀ : Nat) (m : Nat) (hm : m < 256) (w : World) (hn₀ : 1 < n₀) (hB : Bn < w.heap.size)
    (hc : w.cell? ⟨Bn, 0, none⟩ = some (.int .i64 (m : Int))) (hT : Tab w) :
    SeqStopsK Fence.wide n Tryd.prog 32 #[.pointer (some ⟨Bn, 0, none⟩)] (fun x : Fin 8 => #[Value.int .i64 (x.val : Int)]) (Below n₀) (fun ys => ys = bitsOf m) (fun pre => pre <+: bitsOf m) (bitsOf m).length w :=
  fun l J Jx W hW _ _ hY h0 => all1_in n hn l Bn n₀ m hm hn₀ J Jx hY W ((hW.cell (p := ⟨Bn, 0, none⟩) hB).trans hc) (hT.later hW) h0

set_option maxHeartbeats 400000 in
theorem all_any (m : Nat) (w : World) :
    Calls Tryd.prog 28 #[.int .i64 (m : Int)] w fun e w' => e = .returned (seqOf w.heap.size) ∧ w' = w.alloc (.cells #[.int .i64 (m : Int)] 30) := by
  go_enter Tryd.func28, Tryd.ntmps28
  go_wp2
  go_ret
  exact ⟨rfl, rfl⟩

end Go.Proofs.YtbbnagkbbhbbgaaDoor

/-
  (graph).neighbours hands back the iterator over a node's set.
-/
namespace Go.Proofs.YtbbnagkbbhbbgaaDoor
set_option linter.unusedVariables false
set_option linter.unusedSimpArgs false
open Go.RowKit

set_option maxHeartbeats 400000 in
theorem neighbours_any (n : Nat) (f : Nat → Nat) (v : Nat) (hv : v < 8) (w : World) :
    Calls Tryd.prog 30 #[.agg (gcells n f), .int .i64 (v : Int)] w fun e w' => e = .returned (seqOf (w.heap.size + 1)) ∧ w' = (w.alloc (.cells (gcells n f) 33)).alloc (.cells #[.int .i64 (f v : Nat)] 30) := by
  have g1 := gcells_at n f v hv
  go_enter Tryd.func30, Tryd.ntmps30
  go_wp2_with (go_at_call 28; refine (all_any (f v) _).mono ?_; rintro e w' ⟨rfl, rfl⟩)
  go_ret
  exact ⟨by simp, rfl⟩

end Go.Proofs.YtbbnagkbbhbbgaaDoor

/-
  WHICH LISTS ARE GRAPHS: plain functions, no walk.
-/
namespace Go.Proofs.YtbbnagkbbhbbgaaDoor
set_option linter.unusedVariables false
set_option linter.unusedSimpArgs false
open Go.RowKit

def mutRow (f : Nat → Nat) (a : Nat) : Bool := (bitsOf (f a)).all fun b => (f b.val).testBit a
def mutB (n : Nat) (f : Nat → Nat) : Bool := (List.range n).all fun a => mutRow f a

/-- A number that an int64 holds. -/
def I64 (x : Int) : Prop := -9223372036854775808 ≤ x ∧ x ≤ 9223372036854775807

/-- The sets of a list as numbers. -/
def gfun (xs : List Int) : Nat → Nat := fun i => (xs[i]?.getD 0).toNat
def rowOk (xs : List Int) (i : Nat) : Bool := decide (0 ≤ xs[i]?.getD 0 ∧ xs[i]?.getD 0 < ((2 ^ xs.length : Nat) : Int)) && !(gfun xs i).testBit i
def okTo (xs : List Int) (k : Nat) : Bool := (List.range k).all fun i => rowOk xs i
/-- Is the list a graph? -/
def gIn (xs : List Int) : Bool := decide (1 ≤ xs.length ∧ xs.length ≤ 8) && (okTo xs xs.length && mutB xs.length (gfun xs))

theorem okTo_zero (xs : List Int) : okTo xs 0 = true := rfl
theorem okTo_succ (xs : List Int) (k : Nat) : okTo xs (k + 1) = (okTo xs k && rowOk xs k) := by simp [okTo, List.range_succ]
theorem okTo_at {xs : List Int} {k i : Nat} (h : okTo xs k = true) (hi : i < k) : rowOk xs i = true := List.all_eq_true.1 h i (List.mem_range.2 hi)
theorem okTo_false {xs : List Int} {k i : Nat} (h : rowOk xs i = false) (hi : i < k) : okTo xs k = false := by
  rw [Bool.eq_false_iff]; intro hk; rw [okTo_at hk hi] at h; cases h
theorem gIn_row {xs : List Int} {i : Nat} (h : rowOk xs i = false) (hi : i < xs.length) : gIn xs = false := by simp [gIn, okTo_false h hi]
theorem gIn_size {xs : List Int} (h : xs.length < 1 ∨ 8 < xs.length) : gIn xs = false := by
  have : ¬ (1 ≤ xs.length ∧ xs.length ≤ 8) := by omega
  unfold gIn
  rw [decide_eq_false this]; rfl
theorem gIn_mut {xs : List Int} (h1 : 1 ≤ xs.length) (h8 : xs.length ≤ 8) (h : okTo xs xs.length = true) : gIn xs = mutB xs.length (gfun xs) := by
  unfold gIn
  rw [decide_eq_true ⟨h1, h8⟩, h]; rfl
theorem gfun_far {xs : List Int} {i : Nat} (h : xs.length ≤ i) : gfun xs i = 0 := by simp [gfun, List.getElem?_eq_none h]
theorem gfun_at {xs : List Int} {i : Nat} (h : i < xs.length) : gfun xs i = xs[i].toNat := by simp [gfun, h]
theorem gfun_lt {xs : List Int} (h8 : xs.length ≤ 8) (h : okTo xs xs.length = true) : ∀ i, gfun xs i < 256 := by
  intro i
  by_cases hi : i < xs.length
  · have h1 := okTo_at h hi
    have hp := pow8_le (v := xs.length) (by omega)
    simp only [rowOk, Bool.and_eq_true, decide_eq_true_eq] at h1
    unfold gfun
    omega
  · rw [gfun_far (by omega)]; decide
theorem gIn_parts {xs : List Int} (h : gIn xs = true) : 1 ≤ xs.length ∧ xs.length ≤ 8 ∧ okTo xs xs.length = true := by
  unfold gIn at h
  simp only [Bool.and_eq_true, decide_eq_true_eq] at h
  exact ⟨h.1.1, h.1.2, h.2.1⟩

/-- The sets that were read so far. -/
def part (xs : List Int) (k : Nat) : Nat → Nat := fun i => if i < k then gfun xs i else 0
theorem part_zero (xs : List Int) : part xs 0 = fun _ => 0 := by funext i; simp [part]
theorem part_lt {xs : List Int} {k : Nat} (h8 : xs.length ≤ 8) (hk : k ≤ xs.length) (h : okTo xs k = true) : ∀ i, part xs k i < 256 := by
  intro i
  unfold part
  split
  · rename_i hi
    have h1 := okTo_at h hi
    have hp := pow8_le (v := xs.length) (by omega)
    simp only [rowOk, Bool.and_eq_true, decide_eq_true_eq] at h1
    unfold gfun
    omega
  · decide

end Go.Proofs.YtbbnagkbbhbbgaaDoor

/-
  WHERE A FUNCTION RANGES OVER AN ITERATOR IN A LOOP: the marks that its rounds leave among its deferred calls, and what it owes on its way out.
-/
namespace Go.Proofs.YtbbnagkbbhbbgaaDoor
set_option linter.unusedVariables false
set_option linter.unusedSimpArgs false
open Go.RowKit

/-- Each mark leads to a block of its own, from B on, that holds no deferred call. -/
def Marks (B : Nat) (ds : List Deferred) (W : World) : Prop :=
  ∃ Ds : List Nat, ds = Ds.map (fun D => { target := .collected D, args := #[] }) ∧ Ds.Nodup ∧ ∀ D ∈ Ds, B ≤ D ∧ W.heap[D]? = some (.deferred (some []))

theorem Marks.nil (B : Nat) (W : World) : Marks B [] W := ⟨[], rfl, List.nodup_nil, fun _ h => by cases h⟩

theorem Marks.below {B : Nat} {ds : List Deferred} {W W' : World} (h : Marks B ds W) (hb : Below W.heap.size W W') : Marks B ds W' := by
  obtain ⟨Ds, h1, h2, h3⟩ := h
  exact ⟨Ds, h1, h2, fun D hD => ⟨(h3 D hD).1, (hb.block D (Array.getElem?_eq_some_iff.1 (h3 D hD).2).1).trans (h3 D hD).2⟩⟩

theorem Marks.other {B : Nat} {ds : List Deferred} {W W' : World} (h : Marks B ds W) (hb : ∀ (D : Nat), W.heap[D]? = some (.deferred (some [])) → W'.heap[D]? = W.heap[D]?) : Marks B ds W' := by
  obtain ⟨Ds, h1, h2, h3⟩ := h
  exact ⟨Ds, h1, h2, fun D hD => ⟨(h3 D hD).1, (hb D (h3 D hD).2).trans (h3 D hD).2⟩⟩

theorem Marks.cons {B : Nat} {ds : List Deferred} {W : World} {D : Nat} (h : Marks B ds W) (hB : B ≤ D) (hD : W.heap[D]? = some (.deferred (some []))) (hnew : ∀ d ∈ ds, d.target ≠ .collected D) :
    Marks B ({ target := .collected D, args := #[] } :: ds) W := by
  obtain ⟨Ds, rfl, h2, h3⟩ := h
  refine ⟨D :: Ds, rfl, List.nodup_cons.2 ⟨fun hm => ?_, h2⟩, fun D' hD' => ?_⟩
  · exact hnew _ (List.mem_map_of_mem hm) rfl
  · cases List.mem_cons.1 hD' with
    | inl e => subst e; exact ⟨hB, hD⟩
    | inr e => exact h3 D' e

theorem Marks.lt {B : Nat} {ds : List Deferred} {W : World} (h : Marks B ds W) : ∀ d ∈ ds, ∀ D, W.heap.size ≤ D → d.target ≠ .collected D := by
  obtain ⟨Ds, rfl, h2, h3⟩ := h
  intro d hd D hD he
  obtain ⟨D', hD', rfl⟩ := List.mem_map.1 hd
  have := (Array.getElem?_eq_some_iff.1 (h3 D' hD').2).1
  simp at he
  omega

theorem leaves_marks {F : Fence} {n : Nat} {P : Program} {fn : Func} {tmps : Array Value} {R : Ending → World → Prop} (B : Nat) (Φ : World → Prop)
    (hΦ : ∀ W D, B ≤ D → W.heap[D]? = some (.deferred (some [])) → Φ W → Φ (W.putObj D (.deferred none)))
    (hfin : ∀ W, Φ W → LeavesInM F n P fn tmps R [] .returning W) : ∀ (ds : List Deferred) (W : World), Marks B ds W → Φ W → LeavesInM F n P fn tmps R ds .returning W := by
  rintro ds W ⟨Ds, rfl, h2, h3⟩ hW
  induction Ds generalizing W with
  | nil => exact hfin W hW
  | cons D Ds ih =>
    have hD := h3 D (List.mem_cons_self)
    refine ⟨by simp, .inl ⟨_, _, rfl, run_takeDeferred hD.2, ?_⟩⟩
    refine ih _ (List.nodup_cons.1 h2).2 (fun D' hD' => ?_) (hΦ W D hD.1 hD.2 hW)
    have hne : D' ≠ D := fun e => (List.nodup_cons.1 h2).1 (e ▸ hD')
    exact ⟨(h3 D' (List.mem_cons_of_mem _ hD')).1, (World.putObj_heap_other hne).trans (h3 D' (List.mem_cons_of_mem _ hD')).2⟩

/-- What a block of deferred calls does when it is shut: nothing below it turns, and no block of cells. -/
theorem below_shut {B : Nat} {a W : World} {D : Nat} (h : Below B a W) (hB : B ≤ D) (hD : W.heap[D]? = some (.deferred (some []))) : Below B a (W.putObj D (.deferred none)) :=
  h.grown (grownBy_putObj' W D _) (by have := (Array.getElem?_eq_some_iff.1 hD).1; omega) (fun k e => by cases e; exact hB)

theorem grown_of_below_row {w w' : World} (h : Below w.heap.size w w') (row : Option Nat) : w.grownBy w' row :=
  ⟨h.os, h.tape, h.output, h.size, fun k hk _ => h.block k hk⟩
theorem grown_drew {w w' : World} {row : Option Nat} (h : w.grownBy w' row) : w.grownBy w'.drew row := ⟨h.os, h.tape, h.output, h.size, h.block⟩

/-- 'All but one row of what lay in W₀ lies as it lay' abides the turn of a block that is no cells and lies beyond. -/
theorem ownFrom_grown {β : Type} {W₀ : World} (row : Option Nat) : OwnFrom W₀.heap.size (fun (_ : β) W => W₀.grownBy W row) := by
  intro s W W' r hs hg hr
  refine ⟨hg.os.trans hs.os, hg.tape.trans hs.tape, hg.output.trans hs.output, Nat.le_trans hs.size hg.size, fun k hk hne => ?_⟩
  refine (hg.block k (Nat.lt_of_lt_of_le hk hs.size) (fun e => ?_)).trans (hs.block k hk hne)
  have := (hr k e.symm).1
  omega

theorem Marks.grown {B : Nat} {ds : List Deferred} {W W' : World} {b : Nat} {o : Obj} (h : Marks B ds W) (hg : W.grownBy W' (some b)) (hb : W.heap[b]? = some o) (ho : o.isCells = true) : Marks B ds W' :=
  h.other fun D hD => hg.block D (Array.getElem?_eq_some_iff.1 hD).1 (fun e => by
    cases e
    rw [hb] at hD
    cases hD
    simp [Obj.isCells] at ho)

end Go.Proofs.YtbbnagkbbhbbgaaDoor

/-
  A WHOLE GRAPH OUT OF ITS BLOCK AND INTO ONE, inside a fence.
-/
namespace Go.Proofs.YtbbnagkbbhbbgaaDoor
set_option linter.unusedVariables false
set_option linter.unusedSimpArgs false
open Go.RowKit

theorem load_graph_in {F : Fence} {m : Nat} {ops : Array Oper} {rest : List Oper} {o : Oper} {a : Act} {w : World} {Q : Exit → Act → World → Prop} (hgd : o.guard = none) (x : Operand) (ho : o.op = .load 33 x)
    (g : Nat) (n : Nat) (f : Nat → Nat) (hx : a.eval x = .pointer (some ⟨g, 0, none⟩)) (hg : w.heap[g]? = some (.cells (gcells n f) 33 (0, 0)))
    (h : wpListIn F m Tryd.prog ops Q rest (a.put o.dst (.agg (gcells n f))) w) : wpListIn F m Tryd.prog ops Q (o :: rest) a w := by
  refine wpListIn_plain hgd fun K hK' => ?_
  unfold Oper.wpIn
  refine ⟨?_, ?_⟩
  · simp [Oper.about, ho]
  · rw [Oper.semAt_plain F _ _ (by rw [ho]; intro c hc'; cases hc')]
    unfold execOp
    simp only [ho, hx, Instr.loadAt, Instr.sureAddr, Sem.run_bind, Sem.run_pure, Result.andThen_ok, run_loadVar_row w g 33 33 (gcells n f) (0, 0) _ hg Tryd.underlying33 rfl (size_gcells n f)]
    exact hK' _ _ h

theorem store_graph_in {F : Fence} {m : Nat} {ops : Array Oper} {rest : List Oper} {o : Oper} {a : Act} {w : World} {Q : Exit → Act → World → Prop} (hgd : o.guard = none) (x y : Operand) (ho : o.op = .store 33 x y)
    (g : Nat) (n : Nat) (f : Nat → Nat) (hx : a.eval x = .pointer (some ⟨g, 0, none⟩)) (hy : a.eval y = .agg (gcells n f)) (n0 : Nat) (f0 : Nat → Nat)
    (hg : w.heap[g]? = some (.cells (gcells n0 f0) 33 (0, 0)))
    (h : wpListIn F m Tryd.prog ops Q rest (a.put o.dst undef) (w.setRow g (gcells n f))) : wpListIn F m Tryd.prog ops Q (o :: rest) a w := by
  refine wpListIn_plain hgd fun K hK' => ?_
  unfold Oper.wpIn
  refine ⟨?_, ?_⟩
  · simp [Oper.about, ho]
  · rw [Oper.semAt_plain F _ _ (by rw [ho]; intro c hc'; cases hc')]
    unfold execOp
    simp only [ho, hx, hy, Instr.storeAt, Instr.sureAddr, Sem.run_bind, Sem.run_pure, Result.andThen_ok, run_storeVar_row w g 33 33 (gcells n0 f0) (gcells n f) hg (size_gcells n f) rfl (gcells_one n f)]
    exact hK' _ _ h

theorem store_graph_new_in {F : Fence} {m : Nat} {ops : Array Oper} {rest : List Oper} {o : Oper} {a : Act} {w : World} {Q : Exit → Act → World → Prop} (hgd : o.guard = none) (x y : Operand) (ho : o.op = .store 33 x y)
    (n : Nat) (f : Nat → Nat) (hx : a.eval x = .pointer (some ⟨w.heap.size, 0, none⟩)) (hy : a.eval y = .agg (gcells n f))
    (h : wpListIn F m Tryd.prog ops Q rest (a.put o.dst undef) (w.alloc (.cells (gcells n f) 33))) :
    wpListIn F m Tryd.prog ops Q (o :: rest) a (w.alloc (.cells #[.int .i64 0, .int .i64 0, .int .i64 0, .int .i64 0, .int .i64 0, .int .i64 0, .int .i64 0, .int .i64 0, .int .i64 0] 33)) := by
  rw [gcells_zeros]
  refine store_graph_in hgd x y ho w.heap.size n f hx hy 0 (fun _ => 0) (World.alloc_heap_new w _) ?_
  rw [World.setRow_alloc_new]
  exact h

end Go.Proofs.YtbbnagkbbhbbgaaDoor

/-
  (graph).mutual: whether each node is a neighbour of all its neighbours.
-/
namespace Go.Proofs.YtbbnagkbbhbbgaaDoor
set_option linter.unusedVariables false
set_option linter.unusedSimpArgs false
open Go.RowKit Go.Shelf
attribute [local go_sem] Oper.semAt_some

theorem round_k {F : Fence} {n : Nat} {P : Program} {c : Code} {J : Act → World → Prop} {Q : Exit → Act → World → Prop} {a : Act} {w : World}
    (h : ∀ K : Act → World → Prop, (∀ a' w', J a' w' → K a' w') → c.wpIn F n P (Exit.then K Q) a w) : c.wpIn F n P (Exit.then J Q) a w := h J (fun _ _ q => q)

theorem mutual_leave (n : Nat) (f : Nat → Nat) (w : World) (b : Bool) (hb : mutB n f = b) (tmps : Array Value) (hp : tmps[2]? = some (.pointer (some ⟨w.heap.size + 1, 0, none⟩))) (ds : List Deferred) (W : World)
    (hM : Marks w.heap.size ds W) (hB : Below w.heap.size w W) (hx : Boxed W (w.heap.size + 1) 4 (.bool b)) :
    bodyPostM Fence.wide 9 Tryd.prog Tryd.f25 (fun e w' => e = .returned (.bool (mutB n f)) ∧ Below w.heap.size w w') .ret { tmps := tmps, defers := ds } W := by
  refine leaves_marks (F := Fence.wide) (n := 9) w.heap.size (fun W => Below w.heap.size w W ∧ Boxed W (w.heap.size + 1) 4 (.bool b)) ?_ ?_ ds W hM ⟨hB, hx⟩
  · rintro W D hD hk ⟨h1, h2⟩
    refine ⟨below_shut h1 hD hk, (World.putObj_heap_other (fun e => ?_)).trans h2⟩
    have h2' : W.heap[w.heap.size + 1]? = some (.cells #[.bool b] 4 (0, 0)) := h2
    rw [e, hk] at h2'
    cases h2'
  · rintro W ⟨h1, h2⟩
    have hc := h2.cell
    refine ⟨.bool b, ?_, by rw [hb], h1⟩
    simp [results, Tryd.f25, go_sem, hp, hc]

set_option maxRecDepth 100000 in
set_option maxHeartbeats 1000000 in
theorem mutual_any (n : Nat) (f : Nat → Nat) (h8 : n ≤ 8) (hf : ∀ i, f i < 256) (w : World) (hT : Tab w) :
    Calls Tryd.prog 25 #[.agg (gcells n f)] w fun e w' => e = .returned (.bool (mutB n f)) ∧ Below w.heap.size w w' := by
  have g0 := gcells_zero n f
  refine (callsIn_wide (n := 9)).1 ?_
  refine callsIn_of_wp_marks Tryd.func25 rfl trivial ?_ rfl
  simp only [Tryd.ntmps25, List.size_toArray, List.length_cons, List.length_nil, Nat.reduceAdd, Nat.reduceSub, Array.replicate_succ, Array.replicate_zero, List.push_toArray, List.append_toArray, List.nil_append, List.cons_append]
  gi_wp2
  clear g0
  obtain ⟨W1, hW1⟩ : ∃ W1, (w.alloc (.cells (gcells n f) 33)).alloc (.cells #[.bool false] 4) = W1 := ⟨_, rfl⟩
  have hb1 : Below w.heap.size w W1 := by rw [← hW1]; exact ((Below.refl _ _).alloc (Nat.le_refl _) _).alloc (by simp) _
  have hg1 : W1.heap[w.heap.size]? = some (.cells (gcells n f) 33 (0, 0)) := by rw [← hW1]; exact heap_alloc2_old _ _ _
  have hr1 : Boxed W1 (w.heap.size + 1) 4 (.bool false) := by rw [← hW1]; exact heap_alloc2_new _ _ _
  rw [hW1]
  clear hW1
  refine wpIn_loop (fun a wr => ∃ (k : Nat) (ds : List Deferred) (u3 u4 u8 u9 u10 u11 u12 u13 u14 u15 u16 u17 u18 u19 u20 u21 : Value), k ≤ n ∧ (∀ i, i < k → mutRow f i = true) ∧
      Below w.heap.size w wr ∧ wr.heap[w.heap.size]? = some (.cells (gcells n f) 33 (0, 0)) ∧ Boxed wr (w.heap.size + 1) 4 (.bool false) ∧ Marks w.heap.size ds wr ∧
      a = { tmps := #[.agg (gcells n f), .pointer (some ⟨w.heap.size, 0, none⟩), .pointer (some ⟨w.heap.size + 1, 0, none⟩), u3, u4, .pointer (some ⟨w.heap.size, 0, none⟩), .int .i64 n, .int .i64 k, u8, u9, u10, u11, u12, u13, u14, u15, u16, u17, u18, u19, u20, u21], defers := ds })
    (fun a _ => n - (intOf (a.tmps.getD 7 undef)).toNat) ⟨0, [], _, _, _, _, _, _, _, _, _, _, _, _, _, _, _, _, by omega, fun i hi => by omega, hb1, hg1, hr1, Marks.nil _ _, rfl⟩ ?_
  rintro a wr ⟨k, ds, u3, u4, u8, u9, u10, u11, u12, u13, u14, u15, u16, u17, u18, u19, u20, u21, hk, hrows, hb, hg, hr, hM, rfl⟩
  refine round_k (fun K hK => ?_)
  have HK := Lib.hid hK
  have HR := Lib.hid hrows
  have HG := Lib.hid hg
  clear hK hrows hg hb1 hg1 hr1
  by_cases hlt : k < n
  · have hTr := hT.later hb
    have hk8 : (k : Int) < 8 := by omega
    have HT := Lib.hid hTr
    clear hTr hT
    have hlt1 := (Array.getElem?_eq_some_iff.1 HG.out).1
    gi_wp2_with (first
      | (refine ⟨trivial, ?_⟩; gi_at_call 30; refine (callsIn_wide.2 (neighbours_any n f k (by omega) _)).mono ?_; rintro e w' ⟨rfl, rfl⟩)
      | (refine load_graph_in rfl _ rfl _ n f rfl ((Below.heap_alloc _ _ _ (by omega)).trans HG.out) ?_))
    obtain ⟨W0, hW0⟩ : ∃ W0, ((wr.alloc (.cells #[.int .i64 (k : Int)] 3)).alloc (.cells (gcells n f) 33)).alloc (.cells #[.int .i64 (f k : Nat)] 30) = W0 := ⟨_, rfl⟩
    have hb0 : Below wr.heap.size wr W0 := by rw [← hW0]; exact (((Below.refl _ _).alloc (Nat.le_refl _) _).alloc (by simp) _).alloc (by simp; omega) _
    have hsz : W0.heap.size = wr.heap.size + 3 := by rw [← hW0]; simp
    have hv0 : W0.heap[wr.heap.size]? = some (.cells #[.int .i64 (k : Int)] 3 (0, 0)) := by
      rw [← hW0, Below.heap_alloc _ _ _ (by simp; omega), Below.heap_alloc _ _ _ (by simp)]; exact World.alloc_heap_new _ _
    have hs0 : W0.heap[wr.heap.size + 1 + 1]? = some (.cells #[.int .i64 (f k : Nat)] 30 (0, 0)) := by
      rw [← hW0]
      have := World.alloc_heap_new ((wr.alloc (.cells #[.int .i64 (k : Int)] 3)).alloc (.cells (gcells n f) 33)) (.cells #[.int .i64 (f k : Nat)] 30)
      rwa [World.size_alloc, World.size_alloc] at this
    have hg0 : W0.heap[w.heap.size]? = some (.cells (gcells n f) 33 (0, 0)) := (hb0.block _ hlt1).trans HG.out
    have hr0 : Boxed W0 (w.heap.size + 1) 4 (.bool false) := (hb0.block _ hr.lt).trans hr
    have hM0 := hM.below hb0
    have hbw : Below w.heap.size w W0 := step_below hb hb0
    have hT0 : Tab W0 := HT.out.later hb0
    rw [hW0]
    clear hW0
    refine wpIn_rangeFunc_ownF rfl (by decide) (gf := 32) (lb := #[.pointer (some ⟨wr.heap.size + 1 + 1, 0, none⟩)]) rfl trivial (enters_of Tryd.func32 (by kernel_rfl) rfl)
      (all_stops (9 - 1) (by decide) (wr.heap.size + 1 + 1) W0.heap.size (f k) (hf k) W0 hT0.lt (by omega) (cell_of_one hs0) hT0) belowK_t (belowK_b (Nat.le_refl _)) (Below.refl _ _) (fun _ => rfl)
      (fun pre W => (∀ b ∈ pre, (f (Fin.val b)).testBit k = true) ∧ Below W0.heap.size W0 W)
      (fun c pre W => (c = .ret ∧ ∃ b, b ∈ pre ∧ (f (Fin.val b)).testBit k = false) ∧ (W0.grownBy W (some (w.heap.size + 1)) ∧ Boxed W (w.heap.size + 1) 4 (.bool false)))
      (OwnFrom.and (ownFrom_pure _ _) (ownFrom_below (Nat.le_refl _) (Nat.le_refl _)))
      (fun c => OwnFrom.and (ownFrom_pure _ (fun pre => c = .ret ∧ ∃ b, b ∈ pre ∧ (f (Fin.val b)).testBit k = false)) (OwnFrom.and (ownFrom_grown _) (Own.from (boxed_own _ _ _) _)))
      ⟨fun b hb => (by cases hb), Below.refl _ _⟩
      (fun x => { tmps := #[.agg (gcells n f), .pointer (some ⟨w.heap.size, 0, none⟩), .pointer (some ⟨w.heap.size + 1, 0, none⟩), .pointer (some ⟨wr.heap.size, 0, none⟩), .int .i64 (x.val : Int), .pointer (some ⟨w.heap.size, 0, none⟩), .int .i64 n, .int .i64 k, .bool true, .int .i64 k, .agg (gcells n f), .int .i64 k, seqOf (wr.heap.size + 1 + 1), .int .i64 (x.val : Int), u14, u15, u16, u17, u18, u19, u20, u21], defers := [] })
      ?assign ?body ?done ?stop
    case assign =>
      intro l x W K hK
      gi_wp2
      exact hK
    case body =>
      rintro l pre x W ⟨hp, hbW⟩ _
      have hgW := (hbW.block _ (by omega)).trans hg0
      obtain ⟨_, cs, _, _⟩ := graph_cells hgW
      have ck := cs x.val x.isLt
      have cv := cell_of_one ((hbW.block _ (by omega)).trans hv0)
      have bx : Boxed W (w.heap.size + 1) 4 (.bool false) := (hbW.block _ hr0.lt).trans hr0
      have hcr := bx.cell
      have hfr := bx.frozen
      have hx8 : (x.val : Int) < 8 := by have := x.isLt; omega
      have hh := fun W => has_any (f x.val) k (hf _) (by omega) W
      have HP := Lib.hid hp
      have HB := Lib.hid hbW
      have HX := Lib.hid bx
      clear hp hbW hgW bx cs
      have hfo : Tryd.prog.follows Departure.mixedOrders = true := by kernel_rfl
      cases ht : (f x.val).testBit k with
      | true =>
        rw [ht] at hh
        have HH := Lib.hid hh
        have HT2 := Lib.hid ht
        clear hh ht
        gi_wp2
        gi_region_with_o (first | (refine ⟨trivial, ?_⟩; gi_at_call 24; refine (CallsIn.inRound l (callsIn_wide.2 (HH.out _))).mono ?_; rintro e w' ⟨rfl, rfl⟩) | (gi_at_call 24; refine (CallsIn.inRound l (callsIn_wide.2 (HH.out _))).mono ?_; rintro e w' ⟨rfl, rfl⟩))
        all_goals gi_wp2
        all_goals exact ⟨KeepsOthers.drew _, (Below.refl _ _).drew, fun b hb => ((List.mem_append.1 hb).elim (HP.out b) (fun e => by rw [List.mem_singleton.1 e]; exact HT2.out)), HB.out.drew⟩
      | false =>
        rw [ht] at hh
        have HH := Lib.hid hh
        have HT2 := Lib.hid ht
        clear hh ht
        gi_wp2
        gi_region_with_o (first | (refine ⟨trivial, ?_⟩; gi_at_call 24; refine (CallsIn.inRound l (callsIn_wide.2 (HH.out _))).mono ?_; rintro e w' ⟨rfl, rfl⟩) | (gi_at_call 24; refine (CallsIn.inRound l (callsIn_wide.2 (HH.out _))).mono ?_; rintro e w' ⟨rfl, rfl⟩))
        all_goals gi_wp2
        all_goals exact ⟨(KeepsOthers.setCell _ _ _).trans (KeepsOthers.drew _), ⟨rfl, x, by simp, HT2.out⟩, grown_drew (grown_trans (grown_of_below_row HB.out _) (grownBy_setCell' _ _ _)), HX.out.set _⟩
    case done =>
      rintro D ys W hD rfl ⟨hp, hbW⟩ hKD
      have HP := Lib.hid hp
      clear hp
      gi_wp2
      refine HK.out _ _ ⟨⟨k + 1, _, _, _, _, _, _, _, _, _, _, _, _, _, _, _, _, _, by omega, fun i hi => ?_, hbw.trans (hbW.mono hbw.size), (hbW.block _ (by omega)).trans hg0, (hbW.block _ hr0.lt).trans hr0,
        (hM0.below hbW).cons (Nat.le_trans hbw.size hD) hKD (fun d hd => hM0.lt d hd D hD), rfl⟩, by simp [intOf]; omega⟩
      by_cases h : i = k
      · subst h
        unfold mutRow
        rw [List.all_eq_true]
        exact fun b hb => HP.out b hb
      · exact HR.out i (by omega)
    case stop =>
      rintro D c pre W hD hpre ⟨⟨rfl, b, hbm, hbf⟩, hgr, hbx⟩ hKD
      have hno : mutB n f = false := by
        unfold mutB
        rw [Bool.eq_false_iff]
        intro hall
        have h1 := List.all_eq_true.1 hall k (List.mem_range.2 hlt)
        unfold mutRow at h1
        have h2 := List.all_eq_true.1 h1 b (hpre.subset hbm)
        rw [hbf] at h2
        cases h2
      have hMW : Marks w.heap.size ({ target := .collected D, args := #[] } :: ds) W :=
        (hM0.grown hgr hr0 rfl).cons (Nat.le_trans hbw.size hD) hKD (fun d hd => hM0.lt d hd D hD)
      have hBW : Below w.heap.size w W := hbw.grown hgr hbw.size (fun j hj => by cases hj; omega)
      have HN := Lib.hid hno
      clear hbf hno
      gi_wp2
      exact mutual_leave n f w false HN.out _ (by rfl) _ W hMW hBW hbx
  · have hkn : k = n := by omega
    have hcr := hr.cell
    have hfr := hr.frozen
    have hyes : mutB n f = true := by
      unfold mutB
      rw [List.all_eq_true]
      exact fun i hi => HR.out i (by rw [hkn]; exact List.mem_range.1 hi)
    have HN := Lib.hid hyes
    clear hyes hkn
    gi_wp2
    exact mutual_leave n f w true HN.out _ (by rfl) _ _ (hM.grown (grownBy_setCell' _ _ _) hr rfl) (hb.setCell (p := ⟨w.heap.size + 1, 0, none⟩) (by simp) _) (hr.set _)

end Go.Proofs.YtbbnagkbbhbbgaaDoor

/-
  impl.bareGraph, (graph).list, (graph).nodes: their contracts.
-/
namespace Go.Proofs.YtbbnagkbbhbbgaaDoor
set_option linter.unusedVariables false
set_option linter.unusedSimpArgs false
open Go.RowKit

set_option maxHeartbeats 400000 in
theorem bare_yes (n : Nat) (h1 : 1 ≤ n) (h8 : n ≤ 8) (w : World) :
    Calls Tryd.prog 23 #[.int .i64 (n : Int)] w fun e w' => e = .returned (.tuple #[.agg (gcells n (fun _ => 0)), .bool true]) ∧ Below w.heap.size w w' := by
  go_enter Tryd.func23, Tryd.ntmps23
  go_wp2
  simp only [gcells_new]
  refine bodyPost_ret (v := .tuple #[.agg (gcells n (fun _ => 0)), .bool true]) (ret_graph2 rfl _ _ w.heap.size n (fun _ => 0) (.bool true) rfl rfl (World.alloc_heap_new w _)) rfl ⟨rfl, ?_⟩
  exact (Below.refl _ _).alloc (Nat.le_refl _) _

set_option maxHeartbeats 400000 in
theorem bare_no (n : Int) (h : n < 1 ∨ 8 < n) (w : World) :
    Calls Tryd.prog 23 #[.int .i64 n] w fun e w' => e = .returned (.tuple #[.agg (gcells 0 (fun _ => 0)), .bool false]) ∧ Below w.heap.size w w' := by
  rcases h with h | h
  · go_enter Tryd.func23, Tryd.ntmps23
    go_wp2
    simp only [gcells_zeros]
    refine bodyPost_ret (v := .tuple #[.agg (gcells 0 (fun _ => 0)), .bool false]) (ret_graph2 rfl _ _ w.heap.size 0 (fun _ => 0) (.bool false) rfl rfl (World.alloc_heap_new w _)) rfl ⟨rfl, ?_⟩
    exact (Below.refl _ _).alloc (Nat.le_refl _) _
  · have h' : ¬ n < 1 := by omega
    go_enter Tryd.func23, Tryd.ntmps23
    go_wp2
    simp only [gcells_zeros]
    refine bodyPost_ret (v := .tuple #[.agg (gcells 0 (fun _ => 0)), .bool false]) (ret_graph2 rfl _ _ w.heap.size 0 (fun _ => 0) (.bool false) rfl rfl (World.alloc_heap_new w _)) rfl ⟨rfl, ?_⟩
    exact (Below.refl _ _).alloc (Nat.le_refl _) _

set_option maxHeartbeats 400000 in
theorem nodes_any (n : Nat) (f : Nat → Nat) (h8 : n ≤ 8) (w : World) :
    Calls Tryd.prog 22 #[.agg (gcells n f)] w fun e w' => e = .returned (.int .i64 ((2 ^ n - 1 : Nat) : Int)) ∧ w' = w.alloc (.cells (gcells n f) 33) := by
  have g0 := gcells_zero n f
  go_enter Tryd.func22, Tryd.ntmps22
  go_wp2_with (go_at_call 29; refine (nodesBelow_any n (by omega) _).mono ?_; rintro e w' ⟨rfl, rfl⟩)
  go_ret
  exact ⟨rfl, rfl⟩


end Go.Proofs.YtbbnagkbbhbbgaaDoor

/-
  impl.graphFrom reads a graph from a list; it fails if the list is none.
-/
namespace Go.Proofs.YtbbnagkbbhbbgaaDoor
set_option linter.unusedVariables false
set_option linter.unusedSimpArgs false
open Go.RowKit

/-- What graphFrom hands back. -/
def fromOf (xs : List Int) : Array Value := if gIn xs = true then gcells xs.length (gfun xs) else gcells 0 (fun _ => 0)

set_option maxRecDepth 100000 in
set_option maxHeartbeats 1000000 in
theorem from_size (w : World) (v : Value) (xs : List Int) (h : Ints w v xs) (hs : xs.length < 1 ∨ 8 < xs.length) :
    Calls Tryd.prog 19 #[v] w fun e w' => e = .returned (.tuple #[.agg (gcells 0 (fun _ => 0)), .bool false]) ∧ Below w.heap.size w w' := by
  obtain ⟨A, cap, rfl, hm, _⟩ := h
  have hs' : (xs.length : Int) < 1 ∨ 8 < (xs.length : Int) := by omega
  have HS := Lib.hid hs'
  clear hs hs'
  go_enter Tryd.func19, Tryd.ntmps19
  go_wp2_with (first
    | (go_at_call 23; refine (bare_no xs.length HS.out _).mono ?_; rintro e w1 ⟨rfl, hb⟩; replace hb := below_new hb; obtain ⟨hb0, hr0, hz0⟩ := hb)
    | (refine store_graph_new rfl _ _ rfl 0 (fun _ => 0) rfl rfl ?_)
    | (refine store_graph rfl _ _ rfl _ 0 (fun _ => 0) rfl rfl 0 (fun _ => 0) ((Below.heap_alloc _ _ _ hz0).trans hr0) ?_))
  refine bodyPost_ret (v := .tuple #[.agg (gcells 0 (fun _ => 0)), .bool false]) (ret_graph2 rfl _ _ w.heap.size 0 (fun _ => 0) (.bool false) rfl rfl (heap_setRow_same ((Below.heap_alloc _ _ _ hz0).trans hr0))) rfl ⟨rfl, ?_⟩
  exact below_setRow (hb0.alloc hb0.size _) (Nat.le_refl _) _

/-- What stands when the sets so far were read. -/
def Reads (w w1 wr : World) (xs : List Int) (k : Nat) : Prop :=
  Below w.heap.size w wr ∧ wr.heap[w.heap.size]? = some (.cells (gcells 0 (fun _ => 0)) 33 (0, 0)) ∧ wr.heap[w1.heap.size]? = some (.cells (gcells xs.length (part xs k)) 33 (0, 0)) ∧ okTo xs k = true

theorem part_succ (xs : List Int) (k : Nat) : upd (part xs k) k (gfun xs k) = part xs (k + 1) := by
  apply upd_step
  · simp [part]
  · intro i hi
    unfold part
    by_cases h : i < k
    · have : i < k + 1 := by omega
      simp [h, this]
    · have : ¬ i < k + 1 := by omega
      simp [h, this]

theorem part_full (xs : List Int) : part xs xs.length = gfun xs := by
  funext i
  unfold part
  split
  · rfl
  · rw [gfun_far (by omega)]

set_option maxRecDepth 100000 in
set_option maxHeartbeats 1000000 in
theorem from_any (w : World) (v : Value) (xs : List Int) (h : Ints w v xs) (hr : ∀ x ∈ xs, I64 x) (hT : Tab w) :
    Calls Tryd.prog 19 #[v] w fun e w' => e = .returned (.tuple #[.agg (fromOf xs), .bool (gIn xs)]) ∧ Below w.heap.size w w' := by
  by_cases hs : xs.length < 1 ∨ 8 < xs.length
  · have := from_size w v xs h hs
    unfold fromOf
    rw [gIn_size hs]
    exact this
  have h1 : 1 ≤ xs.length := by omega
  have h8 : xs.length ≤ 8 := by omega
  obtain ⟨A, cap, rfl, hm, hc⟩ := h
  have HC := Lib.hid hc
  have HI := Lib.hid hr
  clear hs hc hr
  go_enter Tryd.func19, Tryd.ntmps19
  go_wp2_with (first
    | (go_at_call 23; refine (bare_yes xs.length h1 h8 _).mono ?_; rintro e w1 ⟨rfl, hb⟩; replace hb := below_new hb; obtain ⟨hb0, hr0, hz0⟩ := hb)
    | (refine store_graph_new rfl _ _ rfl xs.length (fun _ => 0) rfl rfl ?_))
  obtain ⟨W, hW⟩ : ∃ W, w1.alloc (.cells (gcells xs.length (fun _ => 0)) 33) = W := ⟨_, rfl⟩
  have hRd : Reads w w1 W xs 0 := by
    rw [← hW]
    exact ⟨hb0.alloc hb0.size _, (Below.heap_alloc _ _ _ hz0).trans hr0, by rw [part_zero]; exact World.alloc_heap_new _ _, okTo_zero xs⟩
  rw [hW]
  clear hW hr0 hb0
  go_loopw [6, 7, 8, 20] (fun _ _ _ i wr => ∃ k : Nat, k ≤ xs.length ∧ i = .int .i64 k ∧ Reads w w1 wr xs k) (fun _ _ _ i _ => xs.length - (intOf i).toNat)
  case atStart => exact ⟨0, by omega, rfl, hRd⟩
  case round =>
    clear hRd
    obtain ⟨k, hk, rfl, hb, hr, hg, hok⟩ := hrel
    have HR := Lib.hid hr
    have HG := Lib.hid hg
    have HO := Lib.hid hok
    have hlt0 := (Array.getElem?_eq_some_iff.1 hr).1
    have hlt1 := (Array.getElem?_eq_some_iff.1 hg).1
    clear hr hg hok
    by_cases hlt : k < xs.length
    · obtain ⟨b, off, rfl, hcell⟩ := HC.out k hlt
      have hcell' := (hb.cell (p := ⟨b, off + k, none⟩) (World.block_lt_of_cell? w _ hcell)).trans hcell
      clear hcell
      have hx64 := HI.out xs[k] (List.getElem_mem hlt)
      have hout := outside_zero xs[k] xs.length (by omega) hx64.1 hx64.2
      clear hx64
      by_cases hin : 0 ≤ xs[k] ∧ xs[k] < ((2 ^ xs.length : Nat) : Int)
      · rw [decide_eq_true hin] at hout
        have hp := pow8_le (v := xs.length) (by omega)
        obtain ⟨m, hm⟩ : ∃ m : Nat, xs[k] = (m : Int) := ⟨xs[k].toNat, by omega⟩
        have hm256 : m < 256 := by omega
        rw [hm] at hout hcell'
        have hgm : gfun xs k = m := by rw [gfun_at hlt, hm]; simp
        have hk8 : (k : Int) < 8 := by omega
        simp only [Bool.not_true] at hout
        cases ht : m.testBit k with
        | true =>
          have hno : gIn xs = false := by
            refine gIn_row (i := k) ?_ hlt
            unfold rowOk; rw [hgm, ht]; simp
          have hh := fun W => has_any m k hm256 (by omega) W
          rw [ht] at hh
          have HH := Lib.hid hh
          have HN := Lib.hid hno
          clear hh hno ht hm hgm hin HC
          go_wp2_with (first
            | (refine load_graph rfl _ rfl _ xs.length (part xs k) rfl HG.out ?_)
            | (go_at_call 22; refine (nodes_any xs.length (part xs k) h8 _).mono ?_; rintro e w' ⟨rfl, rfl⟩)
            | (go_at_call 24; refine (HH.out _).mono ?_; rintro e w' ⟨rfl, rfl⟩)
            | (refine store_graph rfl _ _ rfl _ 0 (fun _ => 0) rfl rfl 0 (fun _ => 0) ((Below.heap_alloc _ _ _ hlt0).trans HR.out) ?_))
          refine bodyPost_ret (v := .tuple #[.agg (gcells 0 (fun _ => 0)), .bool false]) (ret_graph2 rfl _ _ w.heap.size 0 (fun _ => 0) (.bool false) rfl rfl (heap_setRow_same ((Below.heap_alloc _ _ _ hlt0).trans HR.out))) rfl ?_
          unfold fromOf
          rw [HN.out]
          exact ⟨rfl, below_setRow (hb.alloc hb.size _) (Nat.le_refl _) _⟩
        | false =>
          have hyes : okTo xs (k + 1) = true := by
            rw [okTo_succ, HO.out]
            unfold rowOk; rw [hgm, ht, List.getElem?_eq_getElem hlt, Option.getD_some, decide_eq_true hin]; rfl
          have hh := fun W => has_any m k hm256 (by omega) W
          rw [ht] at hh
          obtain ⟨_, cs, fz, _⟩ := graph_cells HG.out
          have ck := cs k (by omega)
          have fk := fz (1 + k)
          have HH := Lib.hid hh
          have HY := Lib.hid hyes
          have HM := Lib.hid hgm
          clear hh hyes ht hm hgm hin cs fz HC
          go_wp2_with (first
            | (refine load_graph rfl _ rfl _ xs.length (part xs k) rfl HG.out ?_)
            | (go_at_call 22; refine (nodes_any xs.length (part xs k) h8 _).mono ?_; rintro e w' ⟨rfl, rfl⟩)
            | (go_at_call 24; refine (HH.out _).mono ?_; rintro e w' ⟨rfl, rfl⟩))
          go_roundw
          case rel =>
            have hsz := hb.size
            refine ⟨k + 1, by omega, by go_num, (hb.setCell (p := ⟨w1.heap.size, 1 + k, none⟩) (by simp; omega) _).alloc (by simp; omega) _, ?_, ?_, HY.out⟩
            · rw [Below.heap_alloc _ _ _ (by simp; omega), heap_setCell_other _ _ _ _ (by simp; omega)]; exact HR.out
            · rw [Below.heap_alloc _ _ _ (by simp; omega), ← HM.out, graph_stored k _ (by omega) HG.out, part_succ]
          case measure => simp [intOf]; omega
      · rw [decide_eq_false hin] at hout
        simp only [Bool.not_false] at hout
        have hno : gIn xs = false := by
          refine gIn_row (i := k) ?_ hlt
          unfold rowOk; rw [List.getElem?_eq_getElem hlt, Option.getD_some, decide_eq_false hin]; rfl
        have HN := Lib.hid hno
        clear hno hin HC
        go_wp2_with (first
          | (refine load_graph rfl _ rfl _ xs.length (part xs k) rfl HG.out ?_)
          | (go_at_call 22; refine (nodes_any xs.length (part xs k) h8 _).mono ?_; rintro e w' ⟨rfl, rfl⟩)
          | (refine store_graph rfl _ _ rfl _ 0 (fun _ => 0) rfl rfl 0 (fun _ => 0) ((Below.heap_alloc _ _ _ hlt0).trans HR.out) ?_))
        refine bodyPost_ret (v := .tuple #[.agg (gcells 0 (fun _ => 0)), .bool false]) (ret_graph2 rfl _ _ w.heap.size 0 (fun _ => 0) (.bool false) rfl rfl (heap_setRow_same ((Below.heap_alloc _ _ _ hlt0).trans HR.out))) rfl ?_
        unfold fromOf
        rw [HN.out]
        exact ⟨rfl, below_setRow (hb.alloc hb.size _) (Nat.le_refl _) _⟩
    · obtain rfl : k = xs.length := by omega
      have hgi := gIn_mut h1 h8 HO.out
      have hfl := gfun_lt h8 HO.out
      have hTr := hT.later hb
      have hmu := mutual_any xs.length (gfun xs) h8 hfl wr hTr
      have HG2 : Hid (wr.heap[w1.heap.size]? = some (.cells (gcells xs.length (gfun xs)) 33 (0, 0))) := by
        show _ = _
        rw [← part_full xs]; exact HG.out
      have HGI := Lib.hid hgi
      have HTR := Lib.hid hTr
      cases hmb : mutB xs.length (gfun xs) with
      | true =>
        rw [hmb] at hmu
        have HMU := Lib.hid hmu
        have HMB := Lib.hid hmb
        clear hmu hmb hfl hgi hTr HC hT
        go_wp2_with (refine load_graph rfl _ rfl _ xs.length (gfun xs) rfl HG2.out ?_)
        refine HMU.out.mono ?_
        rintro e w3 ⟨rfl, hb3⟩
        have HG3 : Hid (w3.heap[w1.heap.size]? = some (.cells (gcells xs.length (gfun xs)) 33 (0, 0))) := (hb3.block _ hlt1).trans HG2.out
        have HR3 : Hid (w3.heap[w.heap.size]? = some (.cells (gcells 0 (fun _ => 0)) 33 (0, 0))) := (hb3.block _ hlt0).trans HR.out
        have HB3 := Lib.hid (step_below hb hb3)
        clear hb3
        go_wp2_with (first
          | (refine load_graph rfl _ rfl _ xs.length (gfun xs) rfl HG3.out ?_)
          | (refine store_graph rfl _ _ rfl _ xs.length (gfun xs) rfl rfl 0 (fun _ => 0) HR3.out ?_))
        refine bodyPost_ret (v := .tuple #[.agg (gcells xs.length (gfun xs)), .bool true]) (ret_graph2 rfl _ _ w.heap.size xs.length (gfun xs) (.bool true) rfl rfl (heap_setRow_same HR3.out)) rfl ?_
        unfold fromOf
        rw [HGI.out, HMB.out]
        exact ⟨rfl, below_setRow HB3.out (Nat.le_refl _) _⟩
      | false =>
        rw [hmb] at hmu
        have HMU := Lib.hid hmu
        have HMB := Lib.hid hmb
        clear hmu hmb hfl hgi hTr HC hT
        go_wp2_with (refine load_graph rfl _ rfl _ xs.length (gfun xs) rfl HG2.out ?_)
        refine HMU.out.mono ?_
        rintro e w3 ⟨rfl, hb3⟩
        have HR3 : Hid (w3.heap[w.heap.size]? = some (.cells (gcells 0 (fun _ => 0)) 33 (0, 0))) := (hb3.block _ hlt0).trans HR.out
        have HB3 := Lib.hid (step_below hb hb3)
        clear hb3
        go_wp2_with (refine store_graph rfl _ _ rfl _ 0 (fun _ => 0) rfl rfl 0 (fun _ => 0) HR3.out ?_)
        refine bodyPost_ret (v := .tuple #[.agg (gcells 0 (fun _ => 0)), .bool false]) (ret_graph2 rfl _ _ w.heap.size 0 (fun _ => 0) (.bool false) rfl rfl (heap_setRow_same HR3.out)) rfl ?_
        unfold fromOf
        rw [HGI.out, HMB.out]
        exact ⟨rfl, below_setRow HB3.out (Nat.le_refl _) _⟩

end Go.Proofs.YtbbnagkbbhbbgaaDoor

/-
  spec.GraphIn: whether a list is a graph; it only reads.
-/
namespace Go.Proofs.YtbbnagkbbhbbgaaDoor
set_option linter.unusedVariables false
set_option linter.unusedSimpArgs false
open Go.RowKit

/-- Each pair of nodes sees each other, or neither does. -/
def symTo (f : Nat → Nat) (a b : Nat) : Prop := (∀ i, i < a → ∀ j, j < i → (f i).testBit j = (f j).testBit i) ∧ ∀ j, j < b → (f a).testBit j = (f j).testBit a

theorem symTo_next {f : Nat → Nat} {a b : Nat} (h : symTo f a b) (he : (f a).testBit b = (f b).testBit a) : symTo f a (b + 1) :=
  ⟨h.1, fun j hj => by
    by_cases e : j = b
    · subst e; exact he
    · exact h.2 j (by omega)⟩
theorem symTo_row {f : Nat → Nat} {a : Nat} (h : symTo f a a) : symTo f (a + 1) 0 :=
  ⟨fun i hi j hj => by
    by_cases e : i = a
    · subst e; exact h.2 j hj
    · exact h.1 i (by omega) j hj, fun j hj => by omega⟩
theorem symTo_zero (f : Nat → Nat) : symTo f 0 0 := ⟨fun i hi => by omega, fun j hj => by omega⟩

theorem row_facts {xs : List Int} {k i : Nat} (h : okTo xs k = true) (hi : i < k) : gfun xs i < 2 ^ xs.length ∧ (gfun xs i).testBit i = false := by
  have h1 := okTo_at h hi
  simp only [rowOk, Bool.and_eq_true, decide_eq_true_eq, Bool.not_eq_true'] at h1
  refine ⟨?_, h1.2⟩
  have h2 := h1.1
  unfold gfun
  generalize 2 ^ xs.length = p at h2
  omega

theorem row_value {xs : List Int} {i : Nat} (h8 : xs.length ≤ 8) (h : okTo xs xs.length = true) (hi : i < xs.length) : xs[i] = (gfun xs i : Int) ∧ gfun xs i < 256 := by
  refine ⟨?_, gfun_lt h8 h i⟩
  have h1 := okTo_at h hi
  simp only [rowOk, Bool.and_eq_true, decide_eq_true_eq] at h1
  rw [gfun_at hi]
  rw [List.getElem?_eq_getElem hi, Option.getD_some] at h1
  omega

theorem sym_mut {xs : List Int} (h8 : xs.length ≤ 8) (hok : okTo xs xs.length = true) (h : symTo (gfun xs) xs.length 0) : mutB xs.length (gfun xs) = true := by
  unfold mutB
  rw [List.all_eq_true]
  intro a ha
  have ha := List.mem_range.1 ha
  unfold mutRow
  rw [List.all_eq_true]
  intro b hb
  have hb := mem_bitsOf.1 hb
  obtain ⟨hlt, hself⟩ := row_facts hok ha
  have hbn : b.val < xs.length := by
    rcases Nat.lt_or_ge b.val xs.length with h' | h'
    · exact h'
    · have : (gfun xs a).testBit b.val = false := Nat.testBit_lt_two_pow (Nat.lt_of_lt_of_le hlt (Nat.pow_le_pow_right (by decide) h'))
      rw [this] at hb; cases hb
  rcases Nat.lt_trichotomy b.val a with h1 | h1 | h1
  · rw [← h.1 a ha b.val h1]; exact hb
  · rw [h1, hself] at hb; cases hb
  · rw [h.1 b.val hbn a h1]; exact hb

theorem mut_sym {xs : List Int} (h8 : xs.length ≤ 8) (a b : Nat) (ha : a < xs.length) (hb : b < a) (hne : (gfun xs a).testBit b ≠ (gfun xs b).testBit a) : mutB xs.length (gfun xs) = false := by
  rw [Bool.eq_false_iff]
  intro hm
  unfold mutB at hm
  have key : ∀ i j, i < xs.length → j < xs.length → (gfun xs i).testBit j = true → (gfun xs j).testBit i = true := by
    intro i j hi hj hb
    have h1 := List.all_eq_true.1 hm i (List.mem_range.2 hi)
    unfold mutRow at h1
    exact List.all_eq_true.1 h1 ⟨j, by omega⟩ (mem_bitsOf.2 hb)
  have k1 := key a b ha (by omega)
  have k2 := key b a (by omega) ha
  cases h1 : (gfun xs a).testBit b <;> cases h2 : (gfun xs b).testBit a <;> simp_all

theorem low_wrap' {n : Nat} (hn : n < 9) : IntKind.i64.wrap (IntKind.i64.wrap (2 ^ n) - 1) = ((2 ^ n - 1 : Nat) : Int) := by
  rw [wrap_eq, wrap_eq]; exact low_wrap hn

set_option maxRecDepth 100000 in
set_option maxHeartbeats 1000000 in
theorem specIn_any (w : World) (v : Value) (xs : List Int) (h : Ints w v xs) :
    Calls Tryd.prog 10 #[v] w fun e w' => e = .returned (.bool (gIn xs)) ∧ ∃ n, w' = w.drewN n := by
  have hv := h
  obtain ⟨A, cap, rfl, hm, hc⟩ := h
  have HV := Lib.hid hv
  have HC := Lib.hid hc
  clear hv hc
  unfold maxLen at hm
  by_cases hs : xs.length < 1 ∨ 8 < xs.length
  · have hno := gIn_size hs
    have hs' : (xs.length : Int) < 1 ∨ 8 < (xs.length : Int) := by omega
    have HN := Lib.hid hno
    have HS := Lib.hid hs'
    clear hno hs hs'
    go_enter Tryd.func10, Tryd.ntmps10
    go_wp2_with (go_at_call 16; refine (l6In_no xs.length 1 8 HS.out _).mono ?_; rintro e w' ⟨rfl, rfl⟩)
    go_ret
    exact ⟨ret_bool HN.out.symm, 0, rfl⟩
  have h1 : 1 ≤ xs.length := by omega
  have h8 : xs.length ≤ 8 := by omega
  clear hs
  go_enter Tryd.func10, Tryd.ntmps10
  go_wp2_with (go_at_call 16; refine (l6In_yes xs.length 1 8 (by omega) (by omega) _).mono ?_; rintro e w' ⟨rfl, rfl⟩)
  go_loopw [4] (fun i wr => ∃ k : Nat, k ≤ xs.length ∧ i = .int .i64 k ∧ okTo xs k = true ∧ ∃ n, wr = w.drewN n) (fun i _ => xs.length - (intOf i).toNat)
  case atStart => exact ⟨0, by omega, rfl, okTo_zero xs, 0, rfl⟩
  case round =>
    obtain ⟨k, hk, rfl, hok, nd, hnd⟩ := hrel
    have hvr : Ints wr (.slice A xs.length cap) xs := by rw [hnd]; exact HV.out.drewN nd
    have HVR := Lib.hid hvr
    have HW := Lib.hid hnd
    clear hvr hnd
    have HO := Lib.hid hok
    clear hok
    by_cases hlt : k < xs.length
    · obtain ⟨b, off, rfl, hcell0⟩ := HC.out k hlt
      have hcell : wr.cell? ⟨b, off + k, none⟩ = some (.int .i64 xs[k]) := by rw [HW.out]; exact hcell0
      clear hcell0
      have hlw := low_wrap' (n := xs.length) (by omega)
      have hlw2 := low_wrap (v := xs.length) (by omega)
      have hki : (k : Int) < (xs.length : Int) := by omega
      by_cases hin : 0 ≤ xs[k] ∧ xs[k] < ((2 ^ xs.length : Nat) : Int)
      · obtain ⟨m, hmm⟩ : ∃ m : Nat, xs[k] = (m : Int) := ⟨xs[k].toNat, by omega⟩
        have hp := pow8_le (v := xs.length) (by omega)
        have hm256 : m < 256 := by omega
        have hmle : (m : Int) ≤ ((2 ^ xs.length - 1 : Nat) : Int) := by omega
        have hgm : gfun xs k = m := by rw [gfun_at hlt, hmm]; simp
        rw [hmm] at hcell
        have hl := fun W => l6In_q (m : Int) 0 ((2 ^ xs.length - 1 : Nat) : Int) true (by simp; omega) W
        have hh := fun (q : Nat) (r : Bool) => l1Has_q (wr.drewN q) _ xs k k m (HVR.out.drewN q) hlt hmm hm256 (by omega) r
        have HL := Lib.hid hl
        cases ht : m.testBit k with
        | true =>
          have hh2 := fun q => hh q _ ht
          have HH := Lib.hid hh2
          clear hh2
          have hno : gIn xs = false := by
            refine gIn_row (i := k) ?_ hlt
            unfold rowOk; rw [hgm, ht]; simp
          have HN := Lib.hid hno
          clear hl hh hno ht hmm hgm hin hmle hp HO
          go_wp2
          go_quiet (first | (go_at_call 16; exact Calls.quiet_of_same (HL.out _)) | (go_at_call 17; exact Calls.quiet_of_same (HH.out _)))
          go_wp2
          go_ret
          exact ⟨ret_bool HN.out.symm, drews_of HW.out⟩
        | false =>
          have hh2 := fun q => hh q _ ht
          have HH := Lib.hid hh2
          clear hh2
          have hyes : okTo xs (k + 1) = true := by
            rw [okTo_succ, HO.out]
            unfold rowOk; rw [hgm, ht, List.getElem?_eq_getElem hlt, Option.getD_some, decide_eq_true hin]; rfl
          have HY := Lib.hid hyes
          clear hl hh hyes ht hmm hgm hin hmle hp HO
          go_wp2
          go_quiet (first | (go_at_call 16; exact Calls.quiet_of_same (HL.out _)) | (go_at_call 17; exact Calls.quiet_of_same (HH.out _)))
          go_wp2
          go_roundw
          case rel => exact ⟨k + 1, by omega, by go_num, HY.out, drews_of HW.out⟩
          case measure => simp [intOf]; omega
      · have hp0 : 0 < 2 ^ xs.length := Nat.two_pow_pos _
        have hout : xs[k] < 0 ∨ ((2 ^ xs.length - 1 : Nat) : Int) < xs[k] := by omega
        clear hp0
        have hl := fun W => l6In_q xs[k] 0 ((2 ^ xs.length - 1 : Nat) : Int) false (by simp; omega) W
        have HL := Lib.hid hl
        have hno : gIn xs = false := by
          refine gIn_row (i := k) ?_ hlt
          unfold rowOk; rw [List.getElem?_eq_getElem hlt, Option.getD_some, decide_eq_false hin]; rfl
        have HN := Lib.hid hno
        clear hl hno hin hout HO
        go_wp2
        go_quiet (first | (go_at_call 16; exact Calls.quiet_of_same (HL.out _)))
        go_wp2
        go_ret
        exact ⟨ret_bool HN.out.symm, drews_of HW.out⟩
    · obtain rfl : k = xs.length := by omega
      go_wp2
      go_loop [5, 6] (fun i _ => ∃ a : Nat, a ≤ xs.length ∧ i = .int .i64 a ∧ symTo (gfun xs) a 0) (fun i _ => xs.length - (intOf i).toNat)
      case atStart => exact ⟨0, by omega, rfl, symTo_zero _⟩
      case round =>
        obtain ⟨a, ha, rfl, hsy⟩ := hrel
        have HSY := Lib.hid hsy
        clear hsy
        by_cases hlt : a < xs.length
        · go_wp2
          go_loop [6] (fun j => ∃ b : Nat, b ≤ a ∧ j = .int .i64 b ∧ symTo (gfun xs) a b) (fun j => a - (intOf j).toNat)
          case atStart => exact ⟨0, by omega, rfl, HSY.out⟩
          case round =>
            obtain ⟨b, hb, rfl, hsb⟩ := hrel
            have HSB := Lib.hid hsb
            clear hsb
            by_cases hltb : b < a
            · obtain ⟨hxa, hma⟩ := row_value h8 HO.out hlt
              obtain ⟨hxb, hmb⟩ := row_value (i := b) h8 HO.out (by omega)
              have hc1 := fun r hr => l1Has_q wr _ xs a b (gfun xs a) HVR.out hlt hxa hma (by omega) r hr
              have hc2 := fun r hr => l1Has_q wr _ xs b a (gfun xs b) HVR.out (by omega) hxb hmb (by omega) r hr
              clear hxa hma hxb hmb
              cases ht1 : (gfun xs a).testBit b with
              | true =>
                have H1 := Lib.hid (hc1 _ ht1)
                cases ht2 : (gfun xs b).testBit a with
                | true =>
                  have H2 := Lib.hid (hc2 _ ht2)
                  have HN := Lib.hid (symTo_next HSB.out (by rw [ht1, ht2]))
                  clear hc1 hc2 ht1 ht2
                  go_wp2_with fail
                  refine H1.out.mono ?_
                  rintro e w' ⟨rfl, rfl⟩
                  go_wp2_with fail
                  refine H2.out.mono ?_
                  rintro e w' ⟨rfl, rfl⟩
                  go_wp2
                  go_round
                  case rel => exact ⟨b + 1, by omega, by go_num, HN.out⟩
                  case measure => simp [intOf]; omega
                | false =>
                  have H2 := Lib.hid (hc2 _ ht2)
                  have hgi := gIn_mut h1 h8 HO.out
                  rw [mut_sym h8 a b hlt hltb (by rw [ht1, ht2]; decide)] at hgi
                  have HN := Lib.hid hgi
                  clear hc1 hc2 ht1 ht2 hgi
                  go_wp2_with fail
                  refine H1.out.mono ?_
                  rintro e w' ⟨rfl, rfl⟩
                  go_wp2_with fail
                  refine H2.out.mono ?_
                  rintro e w' ⟨rfl, rfl⟩
                  go_wp2
                  go_ret
                  exact ⟨ret_bool HN.out.symm, nd, HW.out⟩
              | false =>
                have H1 := Lib.hid (hc1 _ ht1)
                cases ht2 : (gfun xs b).testBit a with
                | false =>
                  have H2 := Lib.hid (hc2 _ ht2)
                  have HN := Lib.hid (symTo_next HSB.out (by rw [ht1, ht2]))
                  clear hc1 hc2 ht1 ht2
                  go_wp2_with fail
                  refine H1.out.mono ?_
                  rintro e w' ⟨rfl, rfl⟩
                  go_wp2_with fail
                  refine H2.out.mono ?_
                  rintro e w' ⟨rfl, rfl⟩
                  go_wp2
                  go_round
                  case rel => exact ⟨b + 1, by omega, by go_num, HN.out⟩
                  case measure => simp [intOf]; omega
                | true =>
                  have H2 := Lib.hid (hc2 _ ht2)
                  have hgi := gIn_mut h1 h8 HO.out
                  rw [mut_sym h8 a b hlt hltb (by rw [ht1, ht2]; decide)] at hgi
                  have HN := Lib.hid hgi
                  clear hc1 hc2 ht1 ht2 hgi
                  go_wp2_with fail
                  refine H1.out.mono ?_
                  rintro e w' ⟨rfl, rfl⟩
                  go_wp2_with fail
                  refine H2.out.mono ?_
                  rintro e w' ⟨rfl, rfl⟩
                  go_wp2
                  go_ret
                  exact ⟨ret_bool HN.out.symm, nd, HW.out⟩
            · obtain rfl : b = a := by omega
              have HN := Lib.hid (symTo_row HSB.out)
              go_wp2
              go_round
              case rel => exact ⟨b + 1, by omega, by go_num, HN.out⟩
              case measure => simp [intOf]; omega
        · obtain rfl : a = xs.length := by omega
          have hyes := sym_mut h8 HO.out HSY.out
          have hgi := gIn_mut h1 h8 HO.out
          rw [hyes] at hgi
          have HG := Lib.hid hgi
          clear hyes hgi
          go_wp2
          go_ret
          exact ⟨ret_bool HG.out.symm, nd, HW.out⟩

end Go.Proofs.YtbbnagkbbhbbgaaDoor

