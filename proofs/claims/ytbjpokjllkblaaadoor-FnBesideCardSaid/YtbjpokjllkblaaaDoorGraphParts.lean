/-
  impl.GraphParts: the parts of a graph, as a list.
-/
import Derived.Test.YtbjpokjllkblaaaDoorParts
import Derived.Test.YtbjpokjllkblaaaDoorCore2
import Derived.Test.YtbjpokjllkblaaaDoorPow
import Derived.Maps.AppendAt
namespace Go.Proofs.YtbjpokjllkblaaaDoor
set_option linter.unusedVariables false
set_option linter.unusedSimpArgs false
open Go.RowKit Go.Shelf
attribute [local go_sem] Oper.semAt_some

/-- What both hand back. -/
def partsOf (xs : List Int) : List Int := if gIn xs = true then (partsTo (gfun xs) xs.length xs.length).1.map (fun (r : Nat) => (r : Int)) else []

theorem partsOf_len (xs : List Int) : (partsOf xs).length ≤ 1048576 := by
  unfold partsOf
  split
  · rename_i h
    obtain ⟨_, h8, hok⟩ := gIn_parts h
    have := (parts_facts (gfun_pow hok) h8 xs.length (Nat.le_refl _)).2.2.2.1
    simp; omega
  · simp

/-- A slice's own row is not a block of cells of another type. -/
theorem cells_not_row {W : World} {B : Nat} {t e : TypeId} {c : Array Value} {fr : Nat × Nat} (h : W.heap[B]? = some (.cells c t fr)) (hte : t ≠ e) {base size k : Nat} {v : Value} {xs : List Value} (hr : W.ownsRow base e size v k xs) : some B ≠ v.ownBlock := by
  rcases hr.2 with ⟨rfl, _⟩ | ⟨g, cap, cur, rfl, _, hgb, _⟩
  · simp [Value.ownBlock]
  · intro e'
    obtain rfl : B = g := by simpa [Value.ownBlock] using e'
    rw [h] at hgb
    simp at hgb
    exact hte hgb.2.1

set_option maxRecDepth 100000 in
set_option maxHeartbeats 1000000 in
theorem implParts_any (w : World) (u : Value) (xs : List Int) (h : Ints w u xs) (hr : ∀ x ∈ xs, I64 x) (hT : Tab w) :
    Calls Tryd.prog 9 #[u] w (GivesInts w (gIn xs) (partsOf xs)) := by
  have hf := from_any w u xs h hr hT
  cases hg : gIn xs with
  | false =>
    have ho : partsOf xs = [] := by simp [partsOf, hg]
    have hfr : fromOf xs = gcells 0 (fun _ => 0) := by simp [fromOf, hg]
    rw [hg, hfr] at hf
    rw [ho]
    have HF := Lib.hid hf
    clear hf hg ho hfr hT hr h
    go_enter Tryd.func9, Tryd.ntmps9
    go_wp2_with (first
      | (go_at_call 13; refine HF.out.mono ?_; rintro e w1 ⟨rfl, hb1⟩)
      | (refine store_graph_new rfl _ _ rfl 0 (fun _ => 0) rfl rfl ?_))
    go_ret2
    exact ⟨_, rfl, hb1.alloc hb1.size _, World.ownsRow_nil _ _ _ _⟩
  | true =>
    obtain ⟨h1, h8, hok⟩ := gIn_parts hg
    have ho : partsOf xs = (partsTo (gfun xs) xs.length xs.length).1.map (fun (r : Nat) => (r : Int)) := by simp [partsOf, hg]
    have hfr : fromOf xs = gcells xs.length (gfun xs) := by simp [fromOf, hg]
    have hpw := gfun_pow hok
    rw [hg, hfr] at hf
    rw [ho]
    obtain ⟨i0, hi, hz0, hz1, hz2⟩ := info_parts infoInt
    have HF := Lib.hid hf
    have HP := Lib.hid hpw
    have HT := Lib.hid hT
    clear hf hg ho hfr hT hr h hok hpw
    refine (callsIn_wide (n := 9)).1 ?_
    refine callsIn_of_wp_marks Tryd.func9 rfl trivial ?_ rfl
    simp only [Tryd.ntmps9, List.size_toArray, List.length_cons, List.length_nil, Nat.reduceAdd, Nat.reduceSub, Array.replicate_succ, Array.replicate_zero, List.push_toArray, List.append_toArray, List.nil_append, List.cons_append]
    gi_wp2_with (first
      | (refine ⟨trivial, ?_⟩; gi_at_call 13; refine (callsIn_wide.2 HF.out).mono ?_; rintro e w1 ⟨rfl, hb1⟩)
      | (refine store_graph_new_in rfl _ _ rfl xs.length (gfun xs) rfl rfl ?_)
      | (refine load_graph_in rfl _ rfl _ xs.length (gfun xs) rfl ((Below.heap_alloc _ _ _ (by simp)).trans (World.alloc_heap_new _ _)) ?_)
      | (refine ⟨trivial, ?_⟩; gi_at_call 19; refine (callsIn_wide.2 (parts_any xs.length (gfun xs) _)).mono ?_; rintro e w' ⟨rfl, rfl⟩))
    obtain ⟨W0, hW0⟩ : ∃ W0, ((w1.alloc (.cells (gcells xs.length (gfun xs)) 41)).alloc (.cells #[.slice none 0 0] 23)).alloc (.cells (gcells xs.length (gfun xs)) 41) = W0 := ⟨_, rfl⟩
    have hb0 : Below w.heap.size w W0 := by rw [← hW0]; exact ((hb1.alloc hb1.size _).alloc (by have := hb1.size; simp; omega) _).alloc (by have := hb1.size; simp; omega) _
    have hsz : W0.heap.size = w1.heap.size + 3 := by rw [← hW0]; simp
    have hn0 : Boxed W0 (w1.heap.size + 1) 23 (.slice none 0 0) := by
      rw [← hW0]
      have := Boxed.new (w1.alloc (.cells (gcells xs.length (gfun xs)) 41)) 23 (.slice none 0 0)
      rw [World.size_alloc] at this
      exact this.alloc _
    have hs0 : W0.heap[w1.heap.size + 1 + 1]? = some (.cells (gcells xs.length (gfun xs)) 41 (0, 0)) := by
      rw [← hW0]
      have := World.alloc_heap_new ((w1.alloc (.cells (gcells xs.length (gfun xs)) 41)).alloc (.cells #[.slice none 0 0] 23)) (.cells (gcells xs.length (gfun xs)) 41)
      rwa [World.size_alloc, World.size_alloc] at this
    have hT0 : Tab W0 := HT.out.later hb0
    have hle1 := hb1.size
    rw [hW0]
    clear hW0
    refine wpIn_rangeFunc_ownF rfl (by decide) (gf := 28) (lb := #[.pointer (some ⟨w1.heap.size + 1 + 1, 0, none⟩)]) rfl trivial (enters_of Tryd.func28 (by kernel_rfl) rfl)
      (parts_stops (9 - 1) (by decide) (w1.heap.size + 1 + 1) w.heap.size xs.length (gfun xs) h8 HP.out W0 HT.out.lt (by omega) hs0 hT0) keepsB_t (keepsB_b (by omega) (by omega)) (Below.refl _ _) (fun _ => rfl)
      (fun pre W => (∃ v, Boxed W (w1.heap.size + 1) 23 v ∧ W.ownsRow w.heap.size 3 1 v pre.length (pre.map fun x => Value.int .i64 (x.1 : Int)) ∧ True) ∧ W.heap[w1.heap.size + 1 + 1]? = some (.cells (gcells xs.length (gfun xs)) 41 (0, 0)) ∧ Below w.heap.size w W)
      (fun _ _ _ => False)
      (OwnFrom.and (Own.from (holdsRow_own w.heap.size (w1.heap.size + 1) 23 3 1 (fun pre : List (PartT xs.length) => pre.length) (fun pre => pre.map fun x => Value.int .i64 (x.1 : Int)) (fun _ _ => True)) _) (OwnFrom.and (Own.from (fun _ _ _ _ hs hg hr => cells_kept hs hg hr) _) (ownFrom_below (Nat.le_refl _) (by omega))))
      (fun c => ownFrom_pure _ (fun _ => False))
      ⟨⟨_, hn0, World.ownsRow_nil _ _ _ _, trivial⟩, hs0, hb0⟩
      (fun x => { tmps := #[u, undef, .slice none 0 0, .bool false, .pointer (some ⟨w1.heap.size, 0, none⟩), .bool true, .pointer (some ⟨w1.heap.size + 1, 0, none⟩), .int .i64 (x.1 : Int), .tuple #[.agg (gcells xs.length (gfun xs)), .bool true], u, .tuple #[.agg (gcells xs.length (gfun xs)), .bool true], .agg (gcells xs.length (gfun xs)), .bool true, .bool true, .bool false, .agg (gcells xs.length (gfun xs)), partsSeq (w1.heap.size + 1 + 1), .int .i64 (x.1 : Int), undef, undef, undef, undef, undef], defers := [] })
      ?assign ?body ?done ?stop
    case assign =>
      intro l x W K hK
      gi_wp2
      exact hK
    case body =>
      rintro l pre x W ⟨⟨v, hv, hrow, _⟩, hgb, hB⟩ hlen
      have hcr := hv.cell
      have hfr := hv.frozen
      have hrow' := hrow
      gi_wp2_with (gi_at_builtin; refine wpListIn_append_own _ rfl _ _ 23 rfl w.heap.size 3 i0 (.int .i64 0) 1 8 Tryd.underlying23 hi hz0 hz1 hz2 rfl (by decide) _ _ _ rfl (hrow.alloc _) ⟨W.heap.size, 0, none⟩ 1 1 [.int .i64 (x.1 : Int)] rfl rfl (cell_one_new _ _ _) (by simp [Value.oneCell']) (by unfold maxLen; omega) (by omega) (by have := hB.size; simp; omega) ?_; intro v' w2 hown' hgrow _; obtain ⟨g', cap', rfl⟩ := ownsRow_succ hown'; obtain ⟨hv1, hv2, hr2, hk2, hb2⟩ := hv.appended (by decide) hrow hB.size (by omega) hown' hgrow; have hc1 := hv1.cell; have hf1 := hv1.frozen)
      have hkg : (w2.setCell ⟨w1.heap.size + 1, 0, none⟩ (.slice (some ⟨g', 0, none⟩) (pre.length + 1) cap')).heap[w1.heap.size + 1 + 1]? = W.heap[w1.heap.size + 1 + 1]? := by
        rw [Below.heap_setCell _ _ _ _ (by simp), hgrow.block _ (by have := (Array.getElem?_eq_some_iff.1 hgb).1; simp; omega) (cells_not_row hgb (by decide) hrow), Below.heap_alloc _ _ _ (Array.getElem?_eq_some_iff.1 hgb).1]
      exact ⟨hk2, ⟨hb2, hkg⟩, ⟨⟨_, hv2, by simpa using hr2, trivial⟩, hkg.trans hgb, hB.trans hb2⟩⟩
    case done =>
      rintro D ys W hD hys ⟨⟨v, hv, hrow, _⟩, _, hbW⟩ hKD
      have hc := hv.cell
      gi_wp2
      refine ⟨by simp, .inl ⟨_, _, rfl, run_takeDeferred hKD, ?_⟩⟩
      refine ⟨.tuple #[v, .bool true], by simp [results, Tryd.f9, go_sem], _, rfl, hbW.trans (belowK_b (w := w) (Nat.le_refl _) W D _ _ (by omega) hKD rfl rfl), ?_⟩
      have e : List.map (fun (r : Nat) => (r : Int)) (partsTo (gfun xs) xs.length xs.length).1 = ys.map (fun x => (x.1 : Int)) := by rw [← hys]; simp
      rw [e]
      have hr2 := ownsRow_putObj hrow (.deferred none) hKD rfl
      have e2 : vals (ys.map (fun x => (x.1 : Int))) = ys.map (fun x => Value.int .i64 (x.1 : Int)) := by simp
      show World.ownsRow _ _ _ _ _ (ys.map (fun x => (x.1 : Int))).length _
      rw [e2, List.length_map]
      exact hr2
    case stop =>
      rintro D c pre W _ _ h _
      exact h.elim


end Go.Proofs.YtbjpokjllkblaaaDoor
