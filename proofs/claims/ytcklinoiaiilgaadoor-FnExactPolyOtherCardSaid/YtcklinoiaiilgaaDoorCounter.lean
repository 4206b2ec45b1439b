/-
  (impl.counter).of: the matching numbers of the nodes that are left; what was counted is kept in a map.
-/
import Derived.Test.YtcklinoiaiilgaaDoorNumCells
import Derived.Test.YtcklinoiaiilgaaDoorTies
import Derived.Test.YtcklinoiaiilgaaDoorNeigh
import Derived.Test.YtcklinoiaiilgaaDoorSpan
import Derived.Test.YtcklinoiaiilgaaDoorMarks
import Derived.Outline
import Derived.RangeFuncWrites
namespace Go.Proofs.YtcklinoiaiilgaaDoor
set_option linter.unusedVariables false
set_option linter.unusedSimpArgs false
open Go.RowKit Go.Shelf
attribute [local go_sem] Oper.semAt_some

/-- What a call of (counter).of leaves. -/
def OfPost (w : World) (B : Nat) (f : Nat → Nat) (s m : Nat) (e : Ending) (w' : World) : Prop :=
  e = .returned (.agg (ncells (nums f s))) ∧ Memo w' B f m ∧ Within B (B + 1) w w'

theorem zeroMN : ∀ w : World, (zeroValue 51).run Tryd.prog w = .ok (.agg (ncells fun _ => 0)) w := fun _ => by kernel_rfl

/-- The boxes with which a call begins. -/
abbrev ofWorld (w : World) (n : Nat) (f : Nat → Nat) (B : Nat) : World := (w.alloc (.cells (ccells n f B) 47)).alloc (.cells (ncells fun _ => 0) 51)

set_option maxRecDepth 100000 in
set_option maxHeartbeats 4000000 in
theorem of_zero (n : Nat) (f : Nat → Nat) (w : World) (B m : Nat) (hM : Memo w B f m) :
    Calls Tryd.prog 60 #[.agg (ccells n f B), .int .i64 0] w (OfPost w B f 0 m) := by
  go_enter Tryd.func60, Tryd.ntmps60
  go_wp2
  have e : (#[Value.int .i64 1, Value.int .i64 0, Value.int .i64 0, Value.int .i64 0, Value.int .i64 0] : Array Value) = ncells (nums f 0) := rfl
  rw [e]
  have hb1 : Below w.heap.size w (w.alloc (.cells (ccells n f B) 47)) := (Below.refl _ _).alloc (Nat.le_refl _) _
  have hb2 := hb1.alloc (o := .cells (ncells (nums f 0)) 51) hb1.size
  refine bodyPost_ret (v := .agg (ncells (nums f 0))) (ret_nums rfl _ _ (w.heap.size + 1) (nums f 0) rfl ?_) rfl ⟨rfl, hM.below hb2, ?_⟩
  · have := World.alloc_heap_new (w.alloc (.cells (ccells n f B) 47)) (.cells (ncells (nums f 0)) 51)
    rwa [World.size_alloc] at this
  · exact ⟨hb2.os, hb2.tape, hb2.output, hb2.size, fun k hk _ => hb2.block k hk⟩

set_option maxRecDepth 100000 in
set_option maxHeartbeats 4000000 in
theorem of_hit (n : Nat) (f : Nat → Nat) (w : World) (B m s : Nat) (D : DataW Unit) (hM : Memo w B f m) (ho : w.ownsMap Tryd.prog 41 numElem B m D) (hh : Maps.has D (kl s) = true) (hval : ∀ zd, D.atKey (kl s) zd = numDatum (nums f s)) (hs : s < 256) (h0 : s ≠ 0) :
    Calls Tryd.prog 60 #[.agg (ccells n f B), .int .i64 (s : Int)] w (OfPost w B f s m) := by
  have hne : ((s : Int) == 0) = false := by rw [beq_eq_false_iff_ne]; omega
  have g9 : (ccells n f B)[9]? = some (.map (some B)) := rfl
  have HM := Lib.hid hM
  have HV := Lib.hid hval
  have HO := Lib.hid ho
  clear hval ho hM
  refine (callsIn_wide (n := 9)).1 ?_
  refine callsIn_of_wp_marks Tryd.func60 rfl trivial ?_ rfl
  simp only [Tryd.ntmps60, List.size_toArray, List.length_cons, List.length_nil, Nat.reduceAdd, Nat.reduceSub, Array.replicate_succ, Array.replicate_zero, List.push_toArray, List.append_toArray, List.nil_append, List.cons_append]
  have hres : ((ofWorld w n f B).alloc (.cells (ncells (nums f s)) 51)).heap[w.heap.size + 1]? = some (.cells (ncells fun _ => 0) 51 (0, 0)) := by
    rw [Below.heap_alloc _ _ _ (by simp)]
    have := World.alloc_heap_new (w.alloc (.cells (ccells n f B) 47)) (.cells (ncells fun _ => 0) 51)
    rwa [World.size_alloc] at this
  have HR := Lib.hid hres
  clear hres
  gi_wp2_with (first
    | (gi_at_lookup; refine wpListIn_lookup_own_ok _ rfl _ _ 45 rfl 41 51 (Maps.int_keyed Tryd.underlying41) Tryd.underlying45 numElem (zeroMN _) (numDatum fun _ => 0) [] (numElem_mk _) B m D rfl ((HO.out.alloc _).alloc _) _ (kl s) rfl (keyOf_set hs) ?_; intro v ps hv; rw [HV.out] at hv; obtain rfl := numElem_inv hv; clear hv)
    | (refine store_nums_new_in rfl _ _ rfl (nums f s) (w.heap.size + 1 + 1) (by simp) rfl rfl ?_)
    | (refine load_nums_in rfl _ rfl (w.heap.size + 1 + 1) (nums f s) rfl (new_nums _ _ _ (by simp)) ?_)
    | (refine store_nums_in rfl _ _ rfl (w.heap.size + 1) (nums f s) rfl rfl (fun _ => 0) HR.out ?_))
  have hb1 : Below w.heap.size w (w.alloc (.cells (ccells n f B) 47)) := (Below.refl _ _).alloc (Nat.le_refl _) _
  have hb2 := hb1.alloc (o := .cells (ncells fun _ => 0) 51) hb1.size
  have hb3 := hb2.alloc (o := .cells (ncells (nums f s)) 51) hb2.size
  have hb4 := below_setRow hb3 (g := w.heap.size + 1) (by omega) (ncells (nums f s))
  have hpost : OfPost w B f s m (.returned (.agg (ncells (nums f s)))) ((((w.alloc (.cells (ccells n f B) 47)).alloc (.cells (ncells fun _ => 0) 51)).alloc (.cells (ncells (nums f s)) 51)).setRow (w.heap.size + 1) (ncells (nums f s))) :=
    ⟨rfl, HM.out.below hb4, ⟨hb4.os, hb4.tape, hb4.output, hb4.size, fun k hk _ => hb4.block k hk⟩⟩
  exact ⟨_, ret_nums rfl _ _ (w.heap.size + 1) (nums f s) rfl (heap_setRow_same HR.out), rfl, hpost.2⟩

/-- How many calls may be made. -/
def cnt (s : Nat) : Nat := 10 ^ (bitsOf s).length

set_option maxHeartbeats 400000 in
theorem lowest_at (m : Nat) (hm : m < 256) (h0 : m ≠ 0) (w : World) (hT : Tab w) :
    Calls Tryd.prog 85 #[.int .i64 (m : Int)] w fun e w' => e = .returned (.int .i64 (((low m).val : Nat) : Int)) ∧ w = w' := by
  have H := Lib.hid (tz_any m hm h0 w hT)
  have hw : IntKind.u64.wrap (m : Int) = (m : Int) := by rw [IntKind.wrap_u64]; omega
  clear hT
  go_enter Tryd.func85, Tryd.ntmps85
  go_wp2_with (go_at_call 84; refine H.out.mono ?_; rintro e w' ⟨rfl, rfl⟩)
  go_ret
  exact ⟨rfl, rfl⟩

theorem Tab.within {w w' : World} {B : Nat} (h : Tab w) (hw : Within B (B + 1) w w') (hB : 1 < B) : Tab w' := fun i x hx =>
  (World.cell?_of_block (a := ⟨1, i, none⟩) (hw.block _ h.lt (.inl hB))).trans (h i x hx)

/-- What stands behind the first few numbers of one link. -/
def prt (f : Nat → Nat) (s : Nat) (pre : List (Fin 8)) (x : Fin 8) (k i : Nat) : Nat := nums f (rst s) i + tied f s pre i + if i ≠ 0 ∧ i ≤ k then nums f (wo (rst s) x.val) (i - 1) else 0
theorem prt_zero (f : Nat → Nat) (s : Nat) (pre : List (Fin 8)) (x : Fin 8) : ncells (prt f s pre x 0) = ncells fun i => nums f (rst s) i + tied f s pre i := ncells_congr fun i _ => by
  unfold prt
  rw [if_neg (by omega)]; rfl
theorem prt_all (f : Nat → Nat) (s : Nat) (pre : List (Fin 8)) (x : Fin 8) : ncells (prt f s pre x 5) = ncells fun i => nums f (rst s) i + tied f s (pre ++ [x]) i := ncells_congr fun i hi => by
  unfold prt
  rw [tied_snoc]
  by_cases h : i = 0
  · subst h; simp
  · rw [if_pos ⟨h, by omega⟩, if_neg h, Nat.add_assoc]
theorem prt_step (f : Nat → Nat) (s : Nat) (pre : List (Fin 8)) (x : Fin 8) (k : Nat) : upd (prt f s pre x k) (k + 1) (prt f s pre x k (k + 1) + nums f (wo (rst s) x.val) k) = prt f s pre x (k + 1) := by
  funext i
  unfold upd prt
  by_cases h : i = k + 1
  · subst h
    rw [if_pos rfl, if_neg (by omega), if_pos (by omega)]; rfl
  · rw [if_neg h]
    by_cases h2 : i ≠ 0 ∧ i ≤ k
    · rw [if_pos h2, if_pos (by omega)]
    · rw [if_neg h2, if_neg (by omega)]
theorem prt_same (f : Nat → Nat) (s : Nat) (pre : List (Fin 8)) (x : Fin 8) (k : Nat) (h : nums f (wo (rst s) x.val) k = 0) : ncells (prt f s pre x (k + 1)) = ncells (prt f s pre x k) := by
  rw [← prt_step, h, Nat.add_zero]
  refine ncells_congr fun i _ => ?_
  unfold upd
  split
  · rename_i e; rw [e, Nat.add_zero]
  · rfl

set_option maxRecDepth 100000 in
theorem index_nums (g : Nat → Nat) (k : Nat) (hk : k < 5) (W : World) : (Instr.index 51 (.agg (ncells g)) (.int .i64 (k : Int))).run Tryd.prog W = .ok (.int .i64 (g k : Nat)) W := by
  obtain rfl | rfl | rfl | rfl | rfl : k = 0 ∨ k = 1 ∨ k = 2 ∨ k = 3 ∨ k = 4 := by omega
  all_goals first | rfl | (unfold ncells; go_simp)

/-- How the loop over the links stands. -/
def Linked (w : World) (n : Nat) (f : Nat → Nat) (B m s N Nb : Nat) (pre : List (Fin 8)) (W : World) : Prop :=
  W.heap[Nb]? = some (.cells (ncells fun i => nums f (rst s) i + tied f s pre i) 51 (0, 0)) ∧ W.heap[N]? = some (.cells (ccells n f B) 47 (0, 0)) ∧
  W.heap[N + 1]? = some (.cells (ncells fun _ => 0) 51 (0, 0)) ∧ W.heap[N + 1 + 1 + 1]? = some (.cells #[.int .i64 ((rst s : Nat) : Int)] 41 (0, 0)) ∧
  Memo W B f (m + cnt (rst s) + pre.length * cnt (rst s)) ∧ Within B (B + 1) w W

theorem linked_own {w : World} {n B m s N Nb S : Nat} {f : Nat → Nat} (hN : N + 1 + 1 + 1 < S) (hNb : Nb < S) (hB : B < S) (hw : w.heap.size ≤ S) : OwnFrom S (Linked w n f B m s N Nb) := by
  intro pre X Y row hs hg hr
  obtain ⟨h1, h2, h3, h4, h5, h6⟩ := hs
  have kp : ∀ {b : Nat} {o : Obj}, b < S → X.heap[b]? = some o → Y.heap[b]? = some o := fun {b} {o} hb ho =>
    (hg.block b (Array.getElem?_eq_some_iff.1 ho).1 (fun e => by have := (hr b e.symm).1; omega)).trans ho
  refine ⟨kp hNb h1, kp (by omega) h2, kp (by omega) h3, kp hN h4, h5.kept hg (fun e => by have := (hr B e.symm).1; omega), ?_⟩
  exact ⟨hg.os.trans h6.os, hg.tape.trans h6.tape, hg.output.trans h6.output, Nat.le_trans h6.size hg.size,
    fun k hk ho => (hg.block k (Nat.lt_of_lt_of_le hk h6.size) (fun e => by have := (hr k e.symm).1; omega)).trans (h6.block k hk ho)⟩

end Go.Proofs.YtcklinoiaiilgaaDoor
