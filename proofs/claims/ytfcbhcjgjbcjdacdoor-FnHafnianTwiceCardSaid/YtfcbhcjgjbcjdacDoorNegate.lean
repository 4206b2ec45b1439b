/-
  (impl.cells).negated, diagonal.
-/
import Derived.Test.YtfcbhcjgjbcjdacDoorTurn
import Derived.Test.YtfcbhcjgjbcjdacDoorSets
import Derived.Deep.QuietTactic
import Derived.BigQuiet
import Derived.Deep.RegionLaw
import Derived.Deep.RegionWith
import Derived.Outline
namespace Go.Proofs.YtfcbhcjgjbcjdacDoor
set_option linter.unusedVariables false
set_option linter.unusedSimpArgs false
open Go.RowKit

/-- The signs turned, as far as number q of row r. -/
def ngTo (F : Nat → Int) (r q : Nat) : Nat → Int := fun i => if i / 6 < r ∨ (i / 6 = r ∧ i % 6 < q) then -F i else F i
theorem ngTo_step (F : Nat → Int) {r q : Nat} (hq : q < 6) : updI (ngTo F r q) (6 * r + q) (-F (6 * r + q)) = ngTo F r (q + 1) := by
  funext i
  unfold updI ngTo
  by_cases h : i = 6 * r + q
  · subst h
    rw [if_pos rfl, if_pos (by right; omega)]
  · rw [if_neg h]
    have : (i / 6 < r ∨ (i / 6 = r ∧ i % 6 < q)) ↔ (i / 6 < r ∨ (i / 6 = r ∧ i % 6 < q + 1)) := by omega
    simp only [this]
theorem ngTo_at (F : Nat → Int) {r q : Nat} (hq : q < 6) : ngTo F r q (6 * r + q) = F (6 * r + q) := by
  unfold ngTo; rw [if_neg (by omega)]
theorem ngTo_row (F : Nat → Int) (r : Nat) : kcells (ngTo F r 6) = kcells (ngTo F (r + 1) 0) := kcells_congr fun i hi => by
  unfold ngTo
  have : (i / 6 < r ∨ (i / 6 = r ∧ i % 6 < 6)) ↔ (i / 6 < r + 1 ∨ (i / 6 = r + 1 ∧ i % 6 < 0)) := by omega
  simp only [this]
theorem ngTo_zero (F : Nat → Int) : ngTo F 0 0 = F := by
  funext i; unfold ngTo; rw [if_neg (by omega)]
theorem ngTo_full (F : Nat → Int) : kcells (ngTo F 6 0) = kcells fun i => -F i := kcells_congr fun i hi => by
  unfold ngTo; rw [if_pos (by left; omega)]
def NegT (w wr : World) (F : Nat → Int) (r q : Nat) : Prop :=
  Below w.heap.size w wr ∧ wr.heap[w.heap.size]? = some (.cells (kcells (ngTo F r q)) 72 (0, 0)) ∧ wr.heap[w.heap.size + 1]? = some (.cells (kcells fun _ => 0) 72 (0, 0))
theorem NegT.step {w wr : World} {F : Nat → Int} {r q : Nat} (h : NegT w wr F r q) (hr : r < 6) (hq : q < 6) : NegT w ((wr.setCell ⟨w.heap.size, r * 6 + q, none⟩ (.int .i64 (-F (r * 6 + q)))).drew) F r (q + 1) := by
  obtain ⟨h1, h2, h3⟩ := h
  have e1 : r * 6 + q = 6 * r + q := by omega
  rw [e1]
  refine ⟨(h1.setCell (p := ⟨w.heap.size, 6 * r + q, none⟩) (Nat.le_refl _) _).drew, ?_, (Below.heap_setCell _ _ _ _ (by simp)).trans h3⟩
  rw [← ngTo_step F hq]
  exact cells_stored (6 * r + q) _ (by omega) h2

set_option maxRecDepth 100000 in
set_option maxHeartbeats 2000000 in
theorem negated_any (F : Nat → Int) (hF : ∀ i, -30 ≤ F i ∧ F i ≤ 30) (w : World) :
    Calls Tryd.prog 93 #[.agg (kcells F)] w fun e w' => e = .returned (.agg (kcells fun i => -F i)) ∧ Below w.heap.size w w' := by
  go_enter Tryd.func93, Tryd.ntmps93
  go_wp2_with (first
    | (refine alloc_cells rfl rfl ?_)
    | (refine store_cells_last rfl _ _ rfl F _ rfl rfl rfl ?_))
  obtain ⟨W, hW⟩ : ∃ W, (w.alloc (.cells (kcells F) 72)).alloc (.cells (kcells fun _ => 0) 72) = W := ⟨_, rfl⟩
  have hT : NegT w W F 0 0 := by
    rw [← hW]
    exact ⟨((Below.refl _ _).alloc (Nat.le_refl _) _).alloc (by simp) _, by rw [ngTo_zero]; exact heap_alloc2_old _ _ _, heap_alloc2_new _ _ _⟩
  rw [hW]
  clear hW
  go_loopw [3, 4, 5, 8] (fun _ _ i _ wr => ∃ r : Nat, r ≤ 6 ∧ i = .int .i64 r ∧ NegT w wr F r 0) (fun _ _ i _ _ => 6 - (intOf i).toNat)
  case atStart => exact ⟨0, by omega, rfl, hT⟩
  case round =>
    clear hT
    obtain ⟨r, hr, rfl, hT⟩ := hrel
    by_cases hlt : r < 6
    · have hri : (r : Int) < 6 := by omega
      go_wp2
      go_loopw [4, 8] (fun _ i wr => ∃ q : Nat, q ≤ 6 ∧ i = .int .i64 q ∧ NegT w wr F r q) (fun _ i _ => 6 - (intOf i).toNat)
      case atStart => exact ⟨0, by omega, rfl, hT⟩
      case round =>
        rename_i wx
        clear hT
        obtain ⟨q, hq, rfl, h1, h2, h3⟩ := hrel
        by_cases hql : q < 6
        · have hqi : (q : Int) < 6 := by omega
          have hr0 : (0 : Int) ≤ (r : Int) := by omega
          have hq0 : (0 : Int) ≤ (q : Int) := by omega
          obtain ⟨cs, cf, _⟩ := cells_cells h2
          have cc := cs (6 * r + q) (by omega)
          have cz := cf (6 * r + q)
          rw [ngTo_at F hql] at cc
          have e1 : 6 * r + q = r * 6 + q := by omega
          rw [e1] at cc cz
          have hb := hF (r * 6 + q)
          obtain ⟨x, hx⟩ : ∃ x, F (r * 6 + q) = x := ⟨_, rfl⟩
          rw [hx] at cc hb
          have HX := Lib.hid hx
          have hneg : IntKind.i64.wrap (-x) = -x := by rw [IntKind.wrap_i64]; omega
          have hneg2 := (wrap_eq _).symm.trans hneg
          have H1 := Lib.hid (show NegT w wr F r q from ⟨h1, h2, h3⟩)
          clear hx cs cf h1 h2 h3 e1
          go_wp2
          first | go_quiet (fail) | go_region_law (fail) | go_region_with (fail)
          all_goals go_wp2
          all_goals go_roundw
          all_goals first
            | (refine ⟨q + 1, by omega, by go_num, ?_⟩; have := H1.out.step hlt hql; rw [HX.out] at this; exact this)
            | (simp [intOf]; omega)
        · obtain rfl : q = 6 := by omega
          rw [ngTo_row] at h2
          have H1 := Lib.hid (show NegT w wr F (r + 1) 0 from ⟨h1, h2, h3⟩)
          clear h1 h2 h3
          go_wp2
          go_roundw
          all_goals first
            | exact ⟨r + 1, by omega, by go_num, H1.out⟩
            | (simp [intOf]; omega)
    · obtain rfl : r = 6 := by omega
      obtain ⟨h1, h2, h3⟩ := hT
      rw [ngTo_full] at h2
      have H2 := Lib.hid h2
      have H3 := Lib.hid h3
      clear h2 h3
      go_wp2_with (first
        | (refine load_cells rfl _ rfl _ (fun i => -F i) rfl H2.out ?_)
        | (refine store_cells rfl _ _ rfl (w.heap.size + 1) (fun i => -F i) rfl rfl (fun _ => 0) H3.out ?_))
      refine bodyPost_ret (v := .agg (kcells fun i => -F i)) (ret_cells rfl _ _ (w.heap.size + 1) (fun i => -F i) rfl (heap_setRowT H3.out)) rfl ⟨rfl, below_setRowT h1 (by omega) _⟩

def dgTo (F : Nat → Int) (q : Nat) : Nat → Int := fun j => if j < q then F (6 * j + j) else 0
theorem dgTo_step (F : Nat → Int) (q : Nat) : updI (dgTo F q) q (F (6 * q + q)) = dgTo F (q + 1) := by
  funext i
  unfold updI dgTo
  by_cases h : i = q
  · subst h; simp
  · rw [if_neg h]
    have : i < q ↔ i < q + 1 := by omega
    simp only [this]
theorem dgTo_zero (F : Nat → Int) : dgTo F 0 = fun _ => 0 := by
  funext i; unfold dgTo; rw [if_neg (by omega)]
theorem dgTo_full (F : Nat → Int) : vcells (dgTo F 6) = vcells fun j => F (6 * j + j) := vcells_congr fun i hi => by
  unfold dgTo; rw [if_pos hi]
def DiagT (w wr : World) (F : Nat → Int) (q : Nat) : Prop :=
  Below w.heap.size w wr ∧ wr.heap[w.heap.size]? = some (.cells (kcells F) 72 (0, 0)) ∧ wr.heap[w.heap.size + 1]? = some (.cells (vcells fun _ => 0) 70 (0, 0)) ∧ wr.heap[w.heap.size + 1 + 1]? = some (.cells (vcells (dgTo F q)) 70 (0, 0))
theorem DiagT.step {w wr : World} {F : Nat → Int} {q : Nat} (h : DiagT w wr F q) (hq : q < 6) : DiagT w (wr.setCell ⟨w.heap.size + 1 + 1, q, none⟩ (.int .i64 (F (q * 6 + q)))) F (q + 1) := by
  obtain ⟨h1, h2, h3, h4⟩ := h
  have e1 : q * 6 + q = 6 * q + q := by omega
  rw [e1]
  refine ⟨(h1.setCell (p := ⟨w.heap.size + 1 + 1, q, none⟩) (by show w.heap.size ≤ w.heap.size + 1 + 1; omega) _), (Below.heap_setCell _ _ _ _ (by show w.heap.size ≠ w.heap.size + 1 + 1; omega)).trans h2, (Below.heap_setCell _ _ _ _ (by show w.heap.size + 1 ≠ w.heap.size + 1 + 1; omega)).trans h3, ?_⟩
  rw [← dgTo_step F]
  exact row_stored q _ (by omega) h4

set_option maxRecDepth 100000 in
set_option maxHeartbeats 2000000 in
theorem diagonal_any (F : Nat → Int) (w : World) :
    Calls Tryd.prog 83 #[.agg (kcells F)] w fun e w' => e = .returned (.agg (vcells fun j => F (6 * j + j))) ∧ Below w.heap.size w w' := by
  go_enter Tryd.func83, Tryd.ntmps83
  go_wp2_with (first
    | (refine alloc_cells rfl rfl ?_)
    | (refine alloc_row rfl rfl ?_)
    | (refine store_cells_last rfl _ _ rfl F _ rfl rfl rfl ?_))
  obtain ⟨W, hW⟩ : ∃ W, ((w.alloc (.cells (kcells F) 72)).alloc (.cells (vcells fun _ => 0) 70)).alloc (.cells (vcells fun _ => 0) 70) = W := ⟨_, rfl⟩
  have hT : DiagT w W F 0 := by
    rw [← hW]
    refine ⟨(((Below.refl _ _).alloc (Nat.le_refl _) _).alloc (by simp) _).alloc (by simp; omega) _, ?_, ?_, ?_⟩
    · rw [Below.heap_alloc _ _ _ (by simp; omega)]; exact heap_alloc2_old _ _ _
    · rw [Below.heap_alloc _ _ _ (by simp)]; exact heap_alloc2_new _ _ _
    · rw [dgTo_zero]
      have := World.alloc_heap_new ((w.alloc (.cells (kcells F) 72)).alloc (.cells (vcells fun _ => 0) 70)) (.cells (vcells fun _ => 0) 70)
      rwa [World.size_alloc, World.size_alloc] at this
  rw [hW]
  clear hW
  go_loopw [4, 5] (fun _ i wr => ∃ q : Nat, q ≤ 6 ∧ i = .int .i64 q ∧ DiagT w wr F q) (fun _ i _ => 6 - (intOf i).toNat)
  case atStart => exact ⟨0, by omega, rfl, hT⟩
  case round =>
    clear hT
    obtain ⟨q, hq, rfl, h1, h2, h3, h4⟩ := hrel
    by_cases hql : q < 6
    · have hqi : (q : Int) < 6 := by omega
      have hq0 : (0 : Int) ≤ (q : Int) := by omega
      obtain ⟨cs, _, _⟩ := cells_cells h2
      obtain ⟨ms, mf, _⟩ := row_cellsV h4
      have cc := cs (6 * q + q) (by omega)
      have mc := ms q (by omega)
      have mz := mf q
      have e1 : 6 * q + q = q * 6 + q := by omega
      rw [e1] at cc
      obtain ⟨x, hx⟩ : ∃ x, F (q * 6 + q) = x := ⟨_, rfl⟩
      rw [hx] at cc
      have HX := Lib.hid hx
      have H1 := Lib.hid (show DiagT w wr F q from ⟨h1, h2, h3, h4⟩)
      clear hx cs ms mf h1 h2 h3 h4 e1
      go_wp2
      go_roundw
      all_goals first
        | (refine ⟨q + 1, by omega, by go_num, ?_⟩; have := H1.out.step hql; rw [HX.out] at this; exact this)
        | (simp [intOf]; omega)
    · obtain rfl : q = 6 := by omega
      rw [dgTo_full] at h4
      have H3 := Lib.hid h3
      have H4 := Lib.hid h4
      clear h2 h3 h4
      go_wp2_with (first
        | (refine load_row rfl _ rfl _ (fun j => F (6 * j + j)) rfl H4.out ?_)
        | (refine store_row rfl _ _ rfl (w.heap.size + 1) (fun j => F (6 * j + j)) rfl rfl (fun _ => 0) H3.out ?_))
      refine bodyPost_ret (v := .agg (vcells fun j => F (6 * j + j))) (ret_row rfl _ _ (w.heap.size + 1) (fun j => F (6 * j + j)) rfl (heap_setRowT H3.out)) rfl ⟨rfl, below_setRowT h1 (by omega) _⟩

end Go.Proofs.YtfcbhcjgjbcjdacDoor
