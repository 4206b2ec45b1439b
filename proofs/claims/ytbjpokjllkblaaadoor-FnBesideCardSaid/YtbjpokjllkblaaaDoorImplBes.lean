/-
  impl.GraphBeside: what it hands back.
-/
import Derived.Test.YtbjpokjllkblaaaDoorBesMath
import Derived.Test.YtbjpokjllkblaaaDoorSpecBes
import Derived.Test.YtbjpokjllkblaaaDoorEdges
import Derived.Test.YtbjpokjllkblaaaDoorCore2
import Derived.Deep.RegionLaw
namespace Go.Proofs.YtbjpokjllkblaaaDoor
set_option linter.unusedVariables false
set_option linter.unusedSimpArgs false
open Go.RowKit Go.Shelf
attribute [local go_sem] Oper.semAt_some
set_option maxRecDepth 100000

theorem bes_from_no {xs : List Int} (hg : gIn xs = false) : fromOf xs = gcells 0 (fun _ => 0) := by simp [fromOf, hg]
theorem bes_from_yes {xs : List Int} (hg : gIn xs = true) : fromOf xs = gcells xs.length (gfun xs) := by simp [fromOf, hg]

/-- The numbers of nodes of both, where they lie. -/
theorem bes_cells {xs ys : List Int} {w1 w2 : World} (hb2 : Below (w1.alloc (.cells (gcells xs.length (gfun xs)) 41)).heap.size (w1.alloc (.cells (gcells xs.length (gfun xs)) 41)) w2) :
    (w2.alloc (.cells (gcells ys.length (gfun ys)) 41)).cell? ⟨w1.heap.size, 0, none⟩ = some (.int .i64 xs.length) ∧ (w2.alloc (.cells (gcells ys.length (gfun ys)) 41)).cell? ⟨w2.heap.size, 0, none⟩ = some (.int .i64 ys.length) := by
  have hs := hb2.size
  simp at hs
  obtain ⟨c1, _⟩ := graph_cells ((Below.heap_alloc w2 (.cells (gcells ys.length (gfun ys)) 41) _ (by omega)).trans ((hb2.block _ (by simp)).trans (World.alloc_heap_new w1 (.cells (gcells xs.length (gfun xs)) 41))))
  obtain ⟨c2, _⟩ := graph_cells (World.alloc_heap_new w2 (.cells (gcells ys.length (gfun ys)) 41))
  exact ⟨c1, c2⟩

set_option maxHeartbeats 4000000 in
theorem implBeside_no (w : World) (v u : Value) (xs ys : List Int) (hv : Ints w v xs) (hu : Ints w u ys) (hr : ∀ x ∈ xs, I64 x) (hq : ∀ x ∈ ys, I64 x) (hT : Tab w) (hno : besOk xs ys = false) :
    Calls Tryd.prog 5 #[v, u] w (GivesInts w false []) := by
  have h1 := from_any w v xs hv hr hT
  have H2 := Lib.hid (fun W (h : Ints W u ys) (ht : Tab W) => from_any W u ys h hq ht)
  have HU := Lib.hid hu
  have HT := Lib.hid hT
  obtain ⟨p, fp, hp⟩ : ∃ p fp, fromOf xs = gcells p fp := by
    cases hg : gIn xs with
    | false => exact ⟨_, _, bes_from_no hg⟩
    | true => exact ⟨_, _, bes_from_yes hg⟩
  obtain ⟨r, fr, hrr⟩ : ∃ r fr, fromOf ys = gcells r fr := by
    cases hg : gIn ys with
    | false => exact ⟨_, _, bes_from_no hg⟩
    | true => exact ⟨_, _, bes_from_yes hg⟩
  rw [hp] at h1
  rw [hrr] at H2
  have H1 := Lib.hid h1
  cases hg : gIn xs with
  | false =>
    rw [hg] at H1
    clear h1 hp hrr hg hno hv hu hT hr hq
    go_enter Tryd.func5, Tryd.ntmps5
    go_wp2_with (first
      | (go_at_call 13; with_reducible refine H1.out.mono ?_; rintro e w1 ⟨rfl, hb1⟩; have HB1 := Lib.hid (hb1.alloc hb1.size (.cells (gcells p fp) 41)))
      | (go_at_call 13; with_reducible refine (H2.out _ (HU.out.below HB1.out) (HT.out.later HB1.out)).mono ?_; rintro e w2 ⟨rfl, hb2⟩)
      | (refine store_graph_new rfl _ _ rfl p fp rfl rfl ?_)
      | (refine store_graph_new rfl _ _ rfl r fr rfl rfl ?_))
    go_ret2
    exact ⟨_, rfl, step_below HB1.out (hb2.alloc hb2.size _), World.ownsRow_nil _ _ _ _⟩
  | true =>
    rw [hg] at H1
    cases hh : gIn ys with
    | false =>
      simp only [hh] at H2
      clear h1 hp hrr hg hh hno hv hu hT hr hq
      go_enter Tryd.func5, Tryd.ntmps5
      go_wp2_with (first
        | (go_at_call 13; with_reducible refine H1.out.mono ?_; rintro e w1 ⟨rfl, hb1⟩; have HB1 := Lib.hid (hb1.alloc hb1.size (.cells (gcells p fp) 41)))
        | (go_at_call 13; with_reducible refine (H2.out _ (HU.out.below HB1.out) (HT.out.later HB1.out)).mono ?_; rintro e w2 ⟨rfl, hb2⟩)
        | (refine store_graph_new rfl _ _ rfl p fp rfl rfl ?_)
        | (refine store_graph_new rfl _ _ rfl r fr rfl rfl ?_))
      go_ret2
      exact ⟨_, rfl, step_below HB1.out (hb2.alloc hb2.size _), World.ownsRow_nil _ _ _ _⟩
    | true =>
      simp only [hh] at H2
      have h8 : ¬ xs.length + ys.length ≤ 8 := fun h => by rw [besOk_y hg hh h] at hno; cases hno
      obtain ⟨x1, x8, _⟩ := gIn_parts hg
      obtain ⟨y1, y8, _⟩ := gIn_parts hh
      rw [bes_from_yes hg] at hp
      rw [bes_from_yes hh] at hrr
      rw [← hp] at H1
      rw [← hrr] at H2
      have hbn := fun W => bare_no ((xs.length : Int) + (ys.length : Int)) (.inr (by omega)) W
      have HBN := Lib.hid hbn
      clear h1 hp hrr hg hh hno hv hu hT hr hq hbn
      go_enter Tryd.func5, Tryd.ntmps5
      go_wp2_with (first
        | (go_at_call 13; with_reducible refine H1.out.mono ?_; rintro e w1 ⟨rfl, hb1⟩; have HB1 := Lib.hid (hb1.alloc hb1.size (.cells (gcells xs.length (gfun xs)) 41)))
        | (go_at_call 13; with_reducible refine (H2.out _ (HU.out.below HB1.out) (HT.out.later HB1.out)).mono ?_; rintro e w2 ⟨rfl, hb2⟩; have HB2 := Lib.hid (step_below HB1.out (hb2.alloc hb2.size (.cells (gcells ys.length (gfun ys)) 41))); obtain ⟨c1, c2⟩ := bes_cells (ys := ys) (xs := xs) hb2)
        | (refine store_graph_new rfl _ _ rfl xs.length (gfun xs) rfl rfl ?_)
        | (refine store_graph_new rfl _ _ rfl ys.length (gfun ys) rfl rfl ?_)
        | (go_at_call 14; refine (HBN.out _).mono ?_; rintro e w3 ⟨rfl, hb3⟩)
        | (refine store_graph_new rfl _ _ rfl 0 (fun _ => 0) rfl rfl ?_))
      go_ret2
      exact ⟨_, rfl, step_below HB2.out (hb3.alloc hb3.size _), World.ownsRow_nil _ _ _ _⟩

end Go.Proofs.YtbjpokjllkblaaaDoor
