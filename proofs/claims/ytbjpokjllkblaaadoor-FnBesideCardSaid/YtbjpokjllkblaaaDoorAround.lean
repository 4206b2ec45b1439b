/-
  (graph).around: all neighbours of the nodes of a set; (graph).isFree.
-/
import Derived.Test.YtbjpokjllkblaaaDoorCore2
import Derived.Test.YtbjpokjllkblaaaDoorReach
import Derived.Deep.QuietTactic
import Derived.BigQuiet
namespace Go.Proofs.YtbjpokjllkblaaaDoor
set_option linter.unusedVariables false
set_option linter.unusedSimpArgs false
open Go.RowKit Go.Shelf
attribute [local go_sem] Oper.semAt_some

/-- A block of cells abides the turn of a block that is none. -/
theorem cells_kept {X Y : World} {row : Option Nat} {b : Nat} {c : Array Value} {t : TypeId} {fr : Nat × Nat} (h : X.heap[b]? = some (.cells c t fr)) (hg : X.grownBy Y row)
    (hrow : ∀ r, row = some r → ∃ o : Obj, X.heap[r]? = some o ∧ o.isCells = false) : Y.heap[b]? = some (.cells c t fr) :=
  (hg.block b (Array.getElem?_eq_some_iff.1 h).1 (fun e => by
    obtain ⟨o, ho, hc⟩ := hrow b e.symm
    rw [h] at ho; cases ho; cases hc)).trans h

theorem orL_val {f : Nat → Nat} (hf : ∀ i, f i < 256) (pre : List (Fin 8)) (x : Fin 8) : bits .or .i64 (orL f pre : Int) (f x.val : Int) = (orL f (pre ++ [x]) : Int) := by
  have h1 := orL_lt hf pre
  have h2 := hf x.val
  rw [or64 _ _ (by omega) (by omega), orL_snoc]

set_option maxRecDepth 100000 in
set_option maxHeartbeats 1000000 in
theorem around_any (n : Nat) (f : Nat → Nat) (hf : ∀ i, f i < 256) (s : Nat) (hs : s < 256) (w : World) (hT : Tab w) :
    Calls Tryd.prog 32 #[.agg (gcells n f), .int .i64 (s : Int)] w fun e w' => e = .returned (.int .i64 (arnd f s : Int)) ∧ Below w.heap.size w w' := by
  have HT := Lib.hid hT
  refine (callsIn_wide (n := 9)).1 ?_
  refine callsIn_of_wp_marks Tryd.func32 rfl trivial ?_ rfl
  simp only [Tryd.ntmps32, List.size_toArray, List.length_cons, List.length_nil, Nat.reduceAdd, Nat.reduceSub, Array.replicate_succ, Array.replicate_zero, List.push_toArray, List.append_toArray, List.nil_append, List.cons_append]
  clear hT
  gi_wp2_with (refine ⟨trivial, ?_⟩; gi_at_call 31; refine (callsIn_wide.2 (all_any s _)).mono ?_; rintro e w' ⟨rfl, rfl⟩)
  obtain ⟨W0, hW0⟩ : ∃ W0, ((w.alloc (.cells (gcells n f) 41)).alloc (.cells #[.int .i64 0] 38)).alloc (.cells #[.int .i64 (s : Int)] 38) = W0 := ⟨_, rfl⟩
  have hb0 : Below w.heap.size w W0 := by rw [← hW0]; exact (((Below.refl _ _).alloc (Nat.le_refl _) _).alloc (by simp) _).alloc (by simp; omega) _
  have hsz : W0.heap.size = w.heap.size + 3 := by rw [← hW0]; simp
  have hg0 : W0.heap[w.heap.size]? = some (.cells (gcells n f) 41 (0, 0)) := by
    rw [← hW0, Below.heap_alloc _ _ _ (by simp; omega), Below.heap_alloc _ _ _ (by simp)]; exact World.alloc_heap_new _ _
  have hn0 : Boxed W0 (w.heap.size + 1) 38 (.int .i64 0) := by
    rw [← hW0]
    have := Boxed.new (w.alloc (.cells (gcells n f) 41)) 38 (.int .i64 0)
    rw [World.size_alloc] at this
    exact this.alloc _
  have hs0 : W0.heap[w.heap.size + 1 + 1]? = some (.cells #[.int .i64 (s : Int)] 38 (0, 0)) := by
    rw [← hW0]
    have := World.alloc_heap_new ((w.alloc (.cells (gcells n f) 41)).alloc (.cells #[.int .i64 0] 38)) (.cells #[.int .i64 (s : Int)] 38)
    rwa [World.size_alloc, World.size_alloc] at this
  have hT0 : Tab W0 := HT.out.later hb0
  rw [hW0]
  clear hW0
  refine wpIn_rangeFunc_ownF rfl (by decide) (gf := 33) (lb := #[.pointer (some ⟨w.heap.size + 1 + 1, 0, none⟩)]) rfl trivial (enters_of Tryd.func33 (by kernel_rfl) rfl)
    (all_stops (9 - 1) (by decide) (w.heap.size + 1 + 1) (w.heap.size) s hs W0 (by have := HT.out.lt; omega) (by omega) (cell_of_one hs0) hT0) belowK_t (belowK_b (by omega)) (Below.refl _ _) (fun _ => rfl)
    (fun pre W => (Boxed W (w.heap.size + 1) 38 (.int .i64 (orL f pre : Int)) ∧ W.heap[w.heap.size]? = some (.cells (gcells n f) 41 (0, 0))) ∧ Below w.heap.size w W)
    (fun _ _ _ => False)
    (OwnFrom.and (Own.from (fun s A B row hs hg hr => ⟨boxed_own (w.heap.size + 1) 38 (fun pre => .int .i64 (orL f pre : Int)) s A B row hs.1 hg hr, cells_kept hs.2 hg hr⟩) _) (ownFrom_below (Nat.le_refl _) (by omega)))
    (fun c => ownFrom_pure _ (fun _ => False))
    ⟨⟨hn0, hg0⟩, hb0⟩
    (fun x => { tmps := #[.agg (gcells n f), .int .i64 (s : Int), .pointer (some ⟨w.heap.size, 0, none⟩), undef, .int .i64 0, .pointer (some ⟨w.heap.size + 1, 0, none⟩), .int .i64 (x.val : Int), .int .i64 (s : Int), seqOf (w.heap.size + 1 + 1), .int .i64 (x.val : Int), undef, undef, undef, undef, undef, undef, undef], defers := [] })
    ?assign ?body ?done ?stop
  case assign =>
    intro l x W K hK
    gi_wp2
    exact hK
  case body =>
    rintro l pre x W ⟨⟨hp, hg⟩, hbW⟩ _
    obtain ⟨_, cs, _, _⟩ := graph_cells hg
    have ck := cs x.val x.isLt
    have hcr := hp.cell
    have hfr := hp.frozen
    have hx8 : (x.val : Int) < 8 := by have := x.isLt; omega
    have hv := orL_val hf pre x
    have HG := Lib.hid hg
    have HB := Lib.hid hbW
    have HX := Lib.hid hp
    have hfo : Tryd.prog.follows Departure.mixedOrders = true := by kernel_rfl
    clear hp hbW hg cs
    gi_wp2
    gi_region_with_o (fail)
    all_goals gi_wp2
    all_goals exact ⟨(KeepsOthers.setCell _ _ _).trans (KeepsOthers.drew _), ((Below.refl _ _).setCell (p := ⟨w.heap.size + 1, 0, none⟩) (by simp) _).drew, ⟨HX.out.set _, (Below.heap_setCell _ _ _ _ (by simp)).trans HG.out⟩, (HB.out.setCell (p := ⟨w.heap.size + 1, 0, none⟩) (by simp) _).drew⟩
  case done =>
    rintro D ys W hD rfl ⟨⟨hp, hg⟩, hbW⟩ hKD
    have hc := hp.cell
    gi_wp2
    refine ⟨by simp, .inl ⟨_, _, rfl, run_takeDeferred hKD, ?_⟩⟩
    exact ⟨_, results_tmp rfl _ _ _, rfl, hbW.trans (belowK_b (w := w) (Nat.le_refl _) W D _ _ (by omega) hKD rfl rfl)⟩
  case stop =>
    rintro D c pre W _ _ h _
    exact h.elim

end Go.Proofs.YtbjpokjllkblaaaDoor
