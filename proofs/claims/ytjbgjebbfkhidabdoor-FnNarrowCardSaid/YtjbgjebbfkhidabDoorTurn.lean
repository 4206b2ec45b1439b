/-
  (impl.cells).transposed, negated, diagonal.
-/
import Derived.Test.YtjbgjebbfkhidabDoorKCells
import Derived.Test.YtjbgjebbfkhidabDoorCore1
import Derived.Deep.QuietTactic
import Derived.BigQuiet
import Derived.Deep.RegionLaw
import Derived.Deep.RegionWith
import Derived.Outline
namespace Go.Proofs.YtjbgjebbfkhidabDoor
set_option linter.unusedVariables false
set_option linter.unusedSimpArgs false
open Go.RowKit

def trF (F : Nat → Int) : Nat → Int := fun i => F (6 * (i % 6) + i / 6)
def trTo (F : Nat → Int) (r q : Nat) : Nat → Int := fun i => if i % 6 < r ∨ (i % 6 = r ∧ i / 6 < q) then trF F i else 0
theorem trTo_step (F : Nat → Int) {r q : Nat} (hr : r < 6) : updI (trTo F r q) (6 * q + r) (F (6 * r + q)) = trTo F r (q + 1) := by
  funext i
  unfold updI trTo
  by_cases h : i = 6 * q + r
  · subst h
    rw [if_pos rfl, if_pos (by right; omega)]
    unfold trF
    congr 1; omega
  · rw [if_neg h]
    have : (i % 6 < r ∨ (i % 6 = r ∧ i / 6 < q)) ↔ (i % 6 < r ∨ (i % 6 = r ∧ i / 6 < q + 1)) := by omega
    simp only [this]
theorem trTo_row (F : Nat → Int) (r : Nat) : kcells (trTo F r 6) = kcells (trTo F (r + 1) 0) := kcells_congr fun i hi => by
  unfold trTo
  have : (i % 6 < r ∨ (i % 6 = r ∧ i / 6 < 6)) ↔ (i % 6 < r + 1 ∨ (i % 6 = r + 1 ∧ i / 6 < 0)) := by omega
  simp only [this]
theorem trTo_zero (F : Nat → Int) : trTo F 0 0 = fun _ => 0 := by
  funext i; unfold trTo; rw [if_neg (by omega)]
theorem trTo_full (F : Nat → Int) : trTo F 6 0 = trF F := by
  funext i; unfold trTo; rw [if_pos (by left; omega)]

/-- What stands while a table is turned. -/
def TurnT (w wr : World) (F : Nat → Int) (r q : Nat) : Prop :=
  Below w.heap.size w wr ∧ wr.heap[w.heap.size]? = some (.cells (kcells F) 55 (0, 0)) ∧ wr.heap[w.heap.size + 1]? = some (.cells (kcells fun _ => 0) 55 (0, 0)) ∧ wr.heap[w.heap.size + 1 + 1]? = some (.cells (kcells (trTo F r q)) 55 (0, 0))

theorem TurnT.step {w wr : World} {F : Nat → Int} {r q : Nat} (h : TurnT w wr F r q) (hr : r < 6) (hq : q < 6) : TurnT w ((wr.setCell ⟨w.heap.size + 1 + 1, q * 6 + r, none⟩ (.int .i64 (F (r * 6 + q)))).drew) F r (q + 1) := by
  obtain ⟨h1, h2, h3, h4⟩ := h
  have e1 : r * 6 + q = 6 * r + q := by omega
  have e2 : q * 6 + r = 6 * q + r := by omega
  rw [e1, e2]
  refine ⟨(h1.setCell (p := ⟨w.heap.size + 1 + 1, 6 * q + r, none⟩) (by show w.heap.size ≤ w.heap.size + 1 + 1; omega) _).drew, (Below.heap_setCell _ _ _ _ (by show w.heap.size ≠ w.heap.size + 1 + 1; omega)).trans h2, (Below.heap_setCell _ _ _ _ (by show w.heap.size + 1 ≠ w.heap.size + 1 + 1; omega)).trans h3, ?_⟩
  rw [← trTo_step F hr]
  exact cells_stored (6 * q + r) _ (by omega) h4

set_option maxRecDepth 100000 in
set_option maxHeartbeats 2000000 in
theorem transposed_any (F : Nat → Int) (w : World) :
    Calls Tryd.prog 79 #[.agg (kcells F)] w fun e w' => e = .returned (.agg (kcells (trF F))) ∧ Below w.heap.size w w' := by
  go_enter Tryd.func79, Tryd.ntmps79
  go_wp2_with (first
    | (refine alloc_cells rfl rfl ?_))
  obtain ⟨W, hW⟩ : ∃ W, ((w.alloc (.cells (kcells F) 55)).alloc (.cells (kcells fun _ => 0) 55)).alloc (.cells (kcells fun _ => 0) 55) = W := ⟨_, rfl⟩
  have hT : TurnT w W F 0 0 := by
    rw [← hW]
    refine ⟨(((Below.refl _ _).alloc (Nat.le_refl _) _).alloc (by simp) _).alloc (by simp; omega) _, ?_, ?_, ?_⟩
    · rw [Below.heap_alloc _ _ _ (by simp; omega)]; exact heap_alloc2_old _ _ _
    · rw [Below.heap_alloc _ _ _ (by simp)]; exact heap_alloc2_new _ _ _
    · rw [trTo_zero]
      have := World.alloc_heap_new ((w.alloc (.cells (kcells F) 55)).alloc (.cells (kcells fun _ => 0) 55)) (.cells (kcells fun _ => 0) 55)
      rwa [World.size_alloc, World.size_alloc] at this
  rw [hW]
  clear hW
  go_loopw [4, 5, 6, 9] (fun _ _ i _ wr => ∃ r : Nat, r ≤ 6 ∧ i = .int .i64 r ∧ TurnT w wr F r 0) (fun _ _ i _ _ => 6 - (intOf i).toNat)
  case atStart => exact ⟨0, by omega, rfl, hT⟩
  case round =>
    clear hT
    obtain ⟨r, hr, rfl, hT⟩ := hrel
    by_cases hlt : r < 6
    · have hri : (r : Int) < 6 := by omega
      go_wp2
      go_loopw [5, 9] (fun _ i wr => ∃ q : Nat, q ≤ 6 ∧ i = .int .i64 q ∧ TurnT w wr F r q) (fun _ i _ => 6 - (intOf i).toNat)
      case atStart => exact ⟨0, by omega, rfl, hT⟩
      case round =>
        rename_i wx
        clear hT
        obtain ⟨q, hq, rfl, h1, h2, h3, h4⟩ := hrel
        by_cases hql : q < 6
        · have hqi : (q : Int) < 6 := by omega
          have hr0 : (0 : Int) ≤ (r : Int) := by omega
          have hq0 : (0 : Int) ≤ (q : Int) := by omega
          obtain ⟨cs, _, _⟩ := cells_cells h2
          obtain ⟨ms, mf, _⟩ := cells_cells h4
          have cc := cs (6 * r + q) (by omega)
          have mc := ms (6 * q + r) (by omega)
          have mz := mf (6 * q + r)
          have e1 : 6 * r + q = r * 6 + q := by omega
          have e2 : 6 * q + r = q * 6 + r := by omega
          have hst := trTo_step F (r := r) (q := q) hlt
          rw [e1] at cc
          rw [e2] at mc mz
          rw [e1, e2] at hst
          obtain ⟨x, hx⟩ : ∃ x, F (r * 6 + q) = x := ⟨_, rfl⟩
          rw [hx] at cc hst
          have HX := Lib.hid hx
          have H1 := Lib.hid (show TurnT w wr F r q from ⟨h1, h2, h3, h4⟩)
          clear hx hst cs ms mf h1 h2 h3 h4 e1 e2
          go_wp2
          first | go_quiet (fail) | go_region_law (fail) | go_region_with (fail)
          all_goals go_wp2
          all_goals go_roundw
          all_goals first
            | (refine ⟨q + 1, by omega, by go_num, ?_⟩; have := H1.out.step hlt hql; rw [HX.out] at this; exact this)
            | (simp [intOf]; omega)
        · obtain rfl : q = 6 := by omega
          rw [trTo_row] at h4
          have H1 := Lib.hid (show TurnT w wr F (r + 1) 0 from ⟨h1, h2, h3, h4⟩)
          clear h1 h2 h3 h4
          go_wp2
          go_roundw
          all_goals first
            | exact ⟨r + 1, by omega, by go_num, H1.out⟩
            | (simp [intOf]; omega)
    · obtain rfl : r = 6 := by omega
      obtain ⟨h1, h2, h3, h4⟩ := hT
      rw [trTo_full] at h4
      have H3 := Lib.hid h3
      have H4 := Lib.hid h4
      clear h2 h3 h4
      go_wp2_with (first
        | (refine load_cells rfl _ rfl _ (trF F) rfl H4.out ?_)
        | (refine store_cells rfl _ _ rfl (w.heap.size + 1) (trF F) rfl rfl (fun _ => 0) H3.out ?_))
      refine bodyPost_ret (v := .agg (kcells (trF F))) (ret_cells rfl _ _ (w.heap.size + 1) (trF F) rfl (heap_setRowT H3.out)) rfl ⟨rfl, below_setRowT h1 (by omega) _⟩

end Go.Proofs.YtjbgjebbfkhidabDoor
