/-
  impl.GraphEdges: all edges, in order.
-/
import Derived.Test.YtbjpokjllkblaaaDoorEdges
import Derived.Test.YtbjpokjllkblaaaDoorCore2
import Derived.Test.YtbjpokjllkblaaaDoorPow
import Derived.Test.YtbjpokjllkblaaaDoorRowsPush
import Derived.Test.YtbjpokjllkblaaaDoorGives
import Derived.Maps.AppendAt
import Derived.OwnWalkIn
namespace Go.Proofs.YtbjpokjllkblaaaDoor
set_option linter.unusedVariables false
set_option linter.unusedSimpArgs false
open Go.RowKit Go.Shelf
attribute [local go_sem] Oper.semAt_some

/-- All edges of a list that is a graph. -/
def edgesL (xs : List Int) : List (List Int) := if gIn xs = true then pairsOf (gfun xs) xs.length else []
theorem pair_len (e : Fin 8 × Fin 8) : (pairL e).length = 2 := rfl
theorem total_pairs (l : List (Fin 8 × Fin 8)) : total (l.map pairL) = 2 * l.length := by
  unfold total
  induction l with
  | nil => rfl
  | cons e l ih => rw [List.map_cons, List.map_cons, List.sum_cons, pair_len, ih, List.length_cons]; omega
theorem edgesL_len (xs : List Int) : (edgesL xs).length + total (edgesL xs) ≤ 1048576 := by
  unfold edgesL
  split
  · rename_i h
    obtain ⟨_, h8, _⟩ := gIn_parts h
    have := pairsTo_len (gfun xs) xs.length xs.length
    unfold pairsOf
    rw [total_pairs, List.length_map]
    omega
  · simp [total]

/-- What the loop over the edges holds. -/
def EdgeRows (w : World) (bx : Nat) (pre : List (Fin 8 × Fin 8)) (X : World) : Prop :=
  ∃ v us, Boxed X bx 29 v ∧ OwnsRows X w.heap.size X.heap.size v us (pre.map pairL)
theorem edgeRows_own (w : World) (bx : Nat) : Own (EdgeRows w bx) := by
  rintro pre X Y row ⟨v, us, hb, hr⟩ hg hrow
  refine ⟨v, us, boxed_own bx 29 (fun _ : Unit => v) () X Y row hb hg hrow, ?_⟩
  have h := hr.still hg hrow
  exact h.wide (Nat.le_refl _) hg.size

set_option maxRecDepth 100000 in
set_option maxHeartbeats 4000000 in
theorem implEdges_any (w : World) (u : Value) (xs : List Int) (h : Ints w u xs) (hr : ∀ x ∈ xs, I64 x) (hT : Tab w) :
    Calls Tryd.prog 8 #[u] w (GivesRows w (gIn xs) (edgesL xs)) := by
  have hf := from_any w u xs h hr hT
  cases hg : gIn xs with
  | false =>
    have ho : edgesL xs = [] := by simp [edgesL, hg]
    have hfr : fromOf xs = gcells 0 (fun _ => 0) := by simp [fromOf, hg]
    rw [hg, hfr] at hf
    rw [ho]
    have HF := Lib.hid hf
    clear hf hg ho hfr hT hr h
    go_enter Tryd.func8, Tryd.ntmps8
    go_wp2_with (first
      | (go_at_call 13; refine HF.out.mono ?_; rintro e w1 ⟨rfl, hb1⟩)
      | (refine store_graph_new rfl _ _ rfl 0 (fun _ => 0) rfl rfl ?_))
    go_ret2
    exact ⟨_, [], rfl, hb1.alloc hb1.size _, owns_rows_nil _ _ _ (World.ownsRow_nil _ _ _ _)⟩
  | true =>
    obtain ⟨h1, h8, hok⟩ := gIn_parts hg
    have ho : edgesL xs = pairsOf (gfun xs) xs.length := by simp [edgesL, hg]
    have hfr : fromOf xs = gcells xs.length (gfun xs) := by simp [fromOf, hg]
    have hpw := gfun_pow hok
    rw [hg, hfr] at hf
    rw [ho]
    obtain ⟨i0, hi, hz0, hz1, hz2⟩ := info_parts infoRow
    have HF := Lib.hid hf
    have HP := Lib.hid hpw
    have HT := Lib.hid hT
    clear hf hg ho hfr hT hr h hok hpw
    refine (callsIn_wide (n := 9)).1 ?_
    refine callsIn_of_wp_marks Tryd.func8 rfl trivial ?_ rfl
    simp only [Tryd.ntmps8, List.size_toArray, List.length_cons, List.length_nil, Nat.reduceAdd, Nat.reduceSub, Array.replicate_succ, Array.replicate_zero, List.push_toArray, List.append_toArray, List.nil_append, List.cons_append]
    gi_wp2_with (first
      | (refine ⟨trivial, ?_⟩; gi_at_call 13; refine (callsIn_wide.2 HF.out).mono ?_; rintro e w1 ⟨rfl, hb1⟩)
      | (refine store_graph_new_in rfl _ _ rfl xs.length (gfun xs) rfl rfl ?_)
      | (refine load_graph_in rfl _ rfl _ xs.length (gfun xs) rfl ((Below.heap_alloc _ _ _ (by simp <;> omega)).trans ((Below.heap_alloc _ _ _ (by simp <;> omega)).trans (World.alloc_heap_new _ _))) ?_)
      | (refine ⟨trivial, ?_⟩; gi_at_call 15; refine (callsIn_wide.2 (edges_any xs.length (gfun xs) _)).mono ?_; rintro e w' ⟨rfl, rfl⟩))
    obtain ⟨W0, hW0⟩ : ∃ W0, (((w1.alloc (.cells (gcells xs.length (gfun xs)) 41)).alloc (.cells #[] 23)).alloc (.cells #[.slice (some ⟨w1.heap.size + 1, 0, none⟩) 0 0] 29)).alloc (.cells (gcells xs.length (gfun xs)) 41) = W0 := ⟨_, rfl⟩
    have hle1 := hb1.size
    have hb0 : Below w.heap.size w W0 := by rw [← hW0]; exact (((hb1.alloc hb1.size _).alloc (by simp; omega) _).alloc (by simp; omega) _).alloc (by simp; omega) _
    have hsz : W0.heap.size = w1.heap.size + 4 := by rw [← hW0]; simp
    have hn0 : Boxed W0 (w1.heap.size + 1 + 1) 29 (.slice (some ⟨w1.heap.size + 1, 0, none⟩) 0 0) := by
      rw [← hW0]
      have := Boxed.new ((w1.alloc (.cells (gcells xs.length (gfun xs)) 41)).alloc (.cells #[] 23)) 29 (.slice (some ⟨w1.heap.size + 1, 0, none⟩) 0 0)
      rw [World.size_alloc, World.size_alloc] at this
      exact this.alloc _
    have hrow0 : W0.ownsRow w.heap.size 23 1 (.slice (some ⟨w1.heap.size + 1, 0, none⟩) 0 0) 0 [] := by
      rw [← hW0]
      have := World.ownsRow_made (base := w.heap.size) (e := 23) (size := 1) (w1.alloc (.cells (gcells xs.length (gfun xs)) 41)) #[] 0 (by simp; omega) (Nat.zero_le _) rfl
      rw [World.size_alloc] at this
      exact (this.alloc _).alloc _
    have hs0 : W0.heap[w1.heap.size + 1 + 1 + 1]? = some (.cells (gcells xs.length (gfun xs)) 41 (0, 0)) := by
      rw [← hW0]
      have := World.alloc_heap_new (((w1.alloc (.cells (gcells xs.length (gfun xs)) 41)).alloc (.cells #[] 23)).alloc (.cells #[.slice (some ⟨w1.heap.size + 1, 0, none⟩) 0 0] 29)) (.cells (gcells xs.length (gfun xs)) 41)
      rwa [World.size_alloc, World.size_alloc, World.size_alloc] at this
    have hT0 : Tab W0 := HT.out.later hb0
    rw [hW0]
    clear hW0
    refine wpIn_range_nest rfl (by decide) (gf := 23) (lb := #[.pointer (some ⟨w1.heap.size + 1 + 1 + 1, 0, none⟩)]) rfl trivial (enters_of Tryd.func23 (by kernel_rfl) rfl)
      (edges_stops (9 - 1) (by decide) (w1.heap.size + 1 + 1 + 1) w.heap.size xs.length (gfun xs) h8 HP.out W0 HT.out.lt (by omega) (by omega) hs0 hT0) (Below.refl _ _) keepsE_t (keepsE_b (by omega) (by omega)) (fun _ => rfl)
      (fun pre X => EdgeRows w (w1.heap.size + 1 + 1) pre X ∧ X.heap[w1.heap.size + 1 + 1 + 1]? = some (.cells (gcells xs.length (gfun xs)) 41 (0, 0)) ∧ Below w.heap.size w X)
      (fun _ _ _ => False)
      (OwnFrom.and (Own.from (edgeRows_own w _) _) (OwnFrom.and (Own.from (fun _ _ _ _ hs hg hr => cells_kept hs hg hr) _) (ownFrom_below (Nat.le_refl _) (by omega))))
      (fun c => ownFrom_pure _ (fun _ => False))
      ⟨⟨_, [], hn0, owns_rows_nil _ _ _ hrow0⟩, hs0, hb0⟩
      (fun x => { tmps := #[u, undef, .slice none 0 0, .bool false, .pointer (some ⟨w1.heap.size, 0, none⟩), .bool true, .pointer (some ⟨w1.heap.size + 1 + 1, 0, none⟩), .int .i64 (x.1.val : Int), .int .i64 (x.2.val : Int), .tuple #[.agg (gcells xs.length (gfun xs)), .bool true], u, .tuple #[.agg (gcells xs.length (gfun xs)), .bool true], .agg (gcells xs.length (gfun xs)), .bool true, .bool true, .bool false, .slice (some ⟨w1.heap.size + 1, 0, none⟩) 0 0, .agg (gcells xs.length (gfun xs)), edgesSeq (w1.heap.size + 1 + 1 + 1), .int .i64 (x.1.val : Int), .int .i64 (x.2.val : Int), undef, undef, undef, undef, undef, undef, undef], defers := [] })
      ?assign ?body ?done ?stop
    case assign =>
      intro l x W K hK
      gi_wp2
      exact hK
    case body =>
      rintro l pre x X ⟨⟨v, us, hv, hrows⟩, hgb, hB⟩ hlen
      have hcr := hv.cell
      have hfr := hv.frozen
      have hul := hrows.len
      rw [List.length_map] at hul
      have hrow : X.ownsRow w.heap.size 23 1 v us.length us := by
        have := hrows.outer.1
        rwa [List.length_map, ← hul] at this
      have hlen' : us.length < 64 := by omega
      have hBs := hB.size
      clear hul
      gi_wp2_with (gi_at_builtin; refine wpListIn_append_own _ rfl _ _ 29 rfl w.heap.size 23 i0 (.slice none 0 0) 1 24 Tryd.underlying29 hi hz0 hz1 hz2 rfl (by decide) _ _ _ rfl ((hrow.alloc _).alloc _) ⟨X.heap.size + 1, 0, none⟩ 1 1 [.slice (some ⟨X.heap.size, 0, none⟩) 2 2] rfl rfl ?q1 ?q2 ?q3 ?q4 ?q5 ?_; rotate_left 5; intro v' w2 hown' hgrow _; obtain ⟨g', cap', rfl⟩ := ownsRow_succ hown'; obtain ⟨hv1, hv2, hr2, hk2, hb2⟩ := (hv.alloc (.cells #[.int .i64 (x.1.val : Int), .int .i64 (x.2.val : Int)] 3)).appended (by decide) (hrow.alloc _) (by rw [World.size_alloc]; exact Nat.le_succ_of_le hBs) (by omega) hown' hgrow; have hc1 := hv1.cell; have hf1 := hv1.frozen)
      case q1 =>
        have := cell_one_new (X.alloc (.cells #[.int .i64 (x.1.val : Int), .int .i64 (x.2.val : Int)] 3)) (.slice (some ⟨X.heap.size, 0, none⟩) 2 2) 23
        rw [World.size_alloc] at this
        exact this
      case q2 => intro z hz; rw [List.mem_singleton.1 hz]; rfl
      case q3 => unfold maxLen; omega
      case q4 => omega
      case q5 => simp; omega
      have hgt : ∀ (k : Nat) (c : Array Value) (t : TypeId) (fr : Nat × Nat), X.heap[k]? = some (Obj.cells c t fr) → t ≠ 23 → w2.heap[k]? = X.heap[k]? := fun k c t fr hk ht => by
        have hlt := (Array.getElem?_eq_some_iff.1 hk).1
        refine (hgrow.block k (by simp; omega) (fun e => ?_)).trans ((Below.heap_alloc _ _ _ (by simp; omega)).trans (Below.heap_alloc _ _ _ hlt))
        obtain ⟨c1, f1, hc1⟩ := row_cells hrow e.symm
        rw [hk] at hc1
        simp at hc1
        exact ht hc1.2.1
      have hin : Owns ((X.alloc (.cells #[.int .i64 (x.1.val : Int), .int .i64 (x.2.val : Int)] 3)).alloc (.cells #[.slice (some ⟨X.heap.size, 0, none⟩) 2 2] 23)) X.heap.size (.slice (some ⟨X.heap.size, 0, none⟩) 2 2) (pairL x) :=
        (World.ownsRow_lit (base := X.heap.size) (e := 3) (size := 1) X #[.int .i64 (x.1.val : Int), .int .i64 (x.2.val : Int)] 2 (Nat.le_refl _) (by unfold maxLen; omega) (by simp)).alloc _
      have hb4 : Below X.heap.size X ((X.alloc (.cells #[.int .i64 (x.1.val : Int), .int .i64 (x.2.val : Int)] 3)).alloc (.cells #[.slice (some ⟨X.heap.size, 0, none⟩) 2 2] 23)) := ((Below.refl _ _).alloc (Nat.le_refl _) _).alloc (by simp) _
      have hps := hrows.push hBs hb4 hin hown' hgrow
      have hgs := grownBy_setCell' w2 (w1.heap.size + 1 + 1) (.slice (some ⟨g', 0, none⟩) (us.length + 1) cap')
      have hps2 := hps.other hgs hv1 (by decide) (by decide)
      have hgc : (w2.setCell ⟨w1.heap.size + 1 + 1, 0, none⟩ (.slice (some ⟨g', 0, none⟩) (us.length + 1) cap')).heap[w1.heap.size + 1 + 1 + 1]? = X.heap[w1.heap.size + 1 + 1 + 1]? :=
        (Below.heap_setCell _ _ _ _ (by simp)).trans (hgt _ _ 41 _ hgb (by decide))
      refine ⟨((KeepsOthers.alloc X _).trans hk2).from _, ⟨((Below.refl w.heap.size X).alloc hBs _).trans hb2, hgc, fun k c t fr hn hk ht => ?_⟩, ⟨_, us ++ [.slice (some ⟨X.heap.size, 0, none⟩) 2 2], hv2, ?_⟩, hgc.trans hgb, hB.trans (((Below.refl w.heap.size X).alloc hBs _).trans hb2)⟩
      · exact (Below.heap_setCell _ _ _ _ (by simp; omega)).trans (hgt k c t fr hk ht)
      · rw [List.map_append, List.map_singleton]
        exact hps2.wide (Nat.le_refl _) hgs.size
    case done =>
      rintro D ys X hD hys ⟨⟨v, us, hv, hrows⟩, _, hbX⟩ hKD
      have hc := hv.cell
      gi_wp2
      refine ⟨by simp, .inl ⟨_, _, rfl, run_takeDeferred hKD, ?_⟩⟩
      have hgp := grownBy_putObj' X D (.deferred none)
      have hst := hrows.still (row := some D) hgp (fun r e => by cases e; exact ⟨_, hKD, rfl⟩)
      refine ⟨.tuple #[v, .bool true], by simp [results, Tryd.f8, go_sem], v, us, rfl, hbX.trans (belowK_b (w := w) (Nat.le_refl _) X D _ _ (by omega) hKD rfl rfl), ?_⟩
      unfold pairsOf
      rw [← hys]
      exact hst.wide (Nat.le_refl _) hgp.size
    case stop =>
      rintro D c pre W _ _ h _
      exact h.elim

end Go.Proofs.YtbjpokjllkblaaaDoor
