/-
  COSTS OF HALF CHOICES AS VALUES: a graph in a struct of its own type; what a column costs in a row.
-/
import Derived.Test.YtellghhilcjbnaaDoorChooser
import Derived.Test.YtellghhilcjbnaaDoorMemoI
import Derived.Test.YtellghhilcjbnaaDoorNear
import Derived.Test.YtellghhilcjbnaaDoorHalfMath
namespace Go.Proofs.YtellghhilcjbnaaDoor
set_option linter.unusedVariables false
set_option linter.unusedSimpArgs false
open Go.RowKit Go.Shelf
attribute [local go_sem] Oper.semAt_some

theorem sizeHC : (Tryd.prog.info? 82).map (·.size) = some 9 := by kernel_rfl
theorem size_hcells (n : Nat) (f : Nat → Nat) : (Tryd.prog.info? 82).map (·.size) = some (gcells n f).size := by rw [gcells_size]; exact sizeHC
theorem half_cells {w : World} {g n : Nat} {f : Nat → Nat} (hg : w.heap[g]? = some (.cells (gcells n f) 82 (0, 0))) : w.cell? ⟨g, 0, none⟩ = some (.int .i64 (n : Int)) := by rw [cell_of_row _ _ _ _ _ _ hg]; rfl
/-- A graph out of a block of half costs. -/
theorem load_half {ops : Array Oper} {rest : List Oper} {o : Oper} {a : Act} {w : World} {Q : Exit → Act → World → Prop} (hgd : o.guard = none) (x : Operand) (ho : o.op = .load 78 x)
    (g : Nat) (n : Nat) (f : Nat → Nat) (hx : a.eval x = .pointer (some ⟨g, 0, none⟩)) (hg : w.heap[g]? = some (.cells (gcells n f) 82 (0, 0)))
    (h : wpList Tryd.prog ops Q rest (a.put o.dst (.agg (gcells n f))) w) : wpList Tryd.prog ops Q (o :: rest) a w :=
  wpList_load_row hgd 78 x ho g hx 82 (gcells n f) (0, 0) _ hg Tryd.underlying78 rfl (size_gcells n f) h
theorem store_half_new {ops : Array Oper} {rest : List Oper} {o : Oper} {a : Act} {w : World} {Q : Exit → Act → World → Prop} (hgd : o.guard = none) (x y : Operand) (ho : o.op = .store 82 x y)
    (n : Nat) (f : Nat → Nat) (b : Nat) (hb : w.heap.size = b) (hx : a.eval x = .pointer (some ⟨b, 0, none⟩)) (hy : a.eval y = .agg (gcells n f))
    (h : wpList Tryd.prog ops Q rest (a.put o.dst undef) (w.alloc (.cells (gcells n f) 82))) :
    wpList Tryd.prog ops Q (o :: rest) a (w.alloc (.cells #[.int .i64 0, .int .i64 0, .int .i64 0, .int .i64 0, .int .i64 0, .int .i64 0, .int .i64 0, .int .i64 0, .int .i64 0] 82)) := by
  subst hb
  rw [gcells_zeros]
  refine wpList_store_row hgd 82 x y ho w.heap.size (gcells n f) hx hy 82 (gcells 0 (fun _ => 0)) (World.alloc_heap_new w _) (size_hcells n f) rfl (gcells_one n f) ?_
  rw [World.setRow_alloc_new]
  exact h
theorem build_half {ops : Array Oper} {rest : List Oper} {o : Oper} {a : Act} {w : World} {Q : Exit → Act → World → Prop} (hgd : o.guard = none) (x : Operand) (ho : o.op = .build 82 #[(0, x)])
    (n : Nat) (f : Nat → Nat) (hx : a.eval x = .agg (gcells n f))
    (h : wpList Tryd.prog ops Q rest (a.put o.dst (.agg (gcells n f))) w) : wpList Tryd.prog ops Q (o :: rest) a w := by
  have hb : Tryd.prog.built 82 [(0, .agg (gcells n f))] = some (gcells n f) := by kernel_rfl
  have hr := run_build (P := Tryd.prog) w 82 #[(0, .agg (gcells n f))] _ hb
  refine wpList_plain hgd fun K hK => ?_
  unfold Oper.wp
  simp only [ho, execOp, List.map_toArray, List.map_cons, List.map_nil, hx, Sem.run_bind, hr, Result.andThen_ok, Sem.run_pure]
  exact hK _ _ h

set_option maxRecDepth 100000 in
set_option maxHeartbeats 1000000 in
theorem rowsH_any (w : World) (n : Nat) (f : Nat → Nat) : Calls Tryd.prog 95 #[.agg (gcells n f)] w fun e w' => e = .returned (.int .i64 (n : Int)) ∧ Below w.heap.size w w' := by
  obtain ⟨W0, hW0⟩ : ∃ W0, w.alloc (.cells (gcells n f) 82) = W0 := ⟨_, rfl⟩
  have hb0 : Below w.heap.size w W0 := by rw [← hW0]; exact (Below.refl _ _).alloc (Nat.le_refl _) _
  have hg : W0.heap[w.heap.size]? = some (.cells (gcells n f) 82 (0, 0)) := by rw [← hW0]; exact World.alloc_heap_new _ _
  have d0 := half_cells hg
  have HB0 := Lib.hid hb0
  clear hb0 hg
  go_enter Tryd.func95, Tryd.ntmps95
  go_wp2_with (first
    | (refine store_half_new rfl _ _ rfl n f _ rfl rfl rfl ?_; rw [hW0]))
  try rw [hW0]
  try go_wp2
  go_ret
  exact ⟨rfl, HB0.out⟩

theorem assert_notwhole (n : Nat) (f : Nat → Nat) (W : World) : (Instr.typeAssert (.iface 82 (.agg (gcells n f))) 55 49 true).run Tryd.prog W = .ok (.tuple #[.agg (tcells 0 fun _ => 0), .bool false]) W := by kernel_rfl
theorem assert_half (n : Nat) (f : Nat → Nat) (W : World) : (Instr.typeAssert (.iface 82 (.agg (gcells n f))) 55 82 true).run Tryd.prog W = .ok (.tuple #[.agg (gcells n f), .bool true]) W := by kernel_rfl
/-- Are a row and a column an edge? -/
def eG (n : Nat) (f : Nat → Nat) (r c : Nat) : Bool := nearB n f (r : Int) (c : Int)

set_option maxRecDepth 100000 in
set_option maxHeartbeats 1000000 in
theorem costAtH_any (w : World) (n : Nat) (f : Nat → Nat) (h8 : n ≤ 8) (hf : ∀ i, f i < 256) (r c : Nat) (z : Int) (hz : eF (eG n f) r c = z) :
    Calls Tryd.prog 48 #[.iface 82 (.agg (gcells n f)), .int .i64 (r : Int), .int .i64 (c : Int)] w fun e w' => e = .returned (.int .i64 z) ∧ Below w.heap.size w w' := by
  obtain ⟨W0, hW0⟩ : ∃ W0, w.alloc (.cells (gcells n f) 82) = W0 := ⟨_, rfl⟩
  have hb0 : Below w.heap.size w W0 := by rw [← hW0]; exact (Below.refl _ _).alloc (Nat.le_refl _) _
  have hg : W0.heap[w.heap.size]? = some (.cells (gcells n f) 82 (0, 0)) := by rw [← hW0]; exact World.alloc_heap_new _ _
  have HB0 := Lib.hid hb0
  have hta := fun W => assert_notwhole n f W
  have htb := fun W => assert_half n f W
  have HN := Lib.hid (fun W => near_any n f (r : Int) (c : Int) h8 hf W)
  have HG := Lib.hid hg
  cases hb : nearB n f (r : Int) (c : Int) with
  | true =>
    have hz' : z = -1 := by rw [← hz]; unfold eF eG; rw [if_pos hb]
    subst hz'
    rw [hb] at HN
    clear hb0 hg hf hz h8 hb
    go_enter Tryd.func48, Tryd.ntmps48
    go_wp2_with (first
      | (refine store_half_new rfl _ _ rfl n f _ rfl rfl rfl ?_; rw [hW0])
      | (refine load_half rfl _ rfl _ n f rfl HG.out ?_)
      | (go_at_call 61; refine (HN.out _).mono ?_; rintro e w1 ⟨rfl, hb1⟩))
    go_ret
    exact ⟨rfl, step_below HB0.out hb1⟩
  | false =>
    have hz' : z = 0 := by rw [← hz]; unfold eF eG; rw [if_neg (by rw [hb]; simp)]
    subst hz'
    rw [hb] at HN
    clear hb0 hg hf hz h8 hb
    go_enter Tryd.func48, Tryd.ntmps48
    go_wp2_with (first
      | (refine store_half_new rfl _ _ rfl n f _ rfl rfl rfl ?_; rw [hW0])
      | (refine load_half rfl _ rfl _ n f rfl HG.out ?_)
      | (go_at_call 61; refine (HN.out _).mono ?_; rintro e w1 ⟨rfl, hb1⟩))
    go_ret
    exact ⟨rfl, step_below HB0.out hb1⟩

theorem meth_rowsH (k : Nat) (n : Nat) (f : Nat → Nat) (W : World) : (method (k + 1) 82 (.agg (gcells n f)) "loop.example/matchpolys/impl.rows").run Tryd.prog W = .ok (95, .agg (gcells n f)) W := by kernel_rfl

end Go.Proofs.YtellghhilcjbnaaDoor
