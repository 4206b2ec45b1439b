/-
  (graph).other: the graph of the others.
-/
import Derived.Test.YthafhcocgohjaabDoorCore2
import Derived.Deep.RegionLaw
namespace Go.Proofs.YthafhcocgohjaabDoor
set_option linter.unusedVariables false
set_option linter.unusedSimpArgs false
open Go.RowKit

/-- The neighbours that are none. -/
def othOf (n : Nat) (f : Nat → Nat) : Nat → Nat := fun i => if i < n then ((2 ^ n - 1) &&& (255 - 2 ^ i)) &&& (255 - f i) else f i

theorem oth_step (n : Nat) (f : Nat → Nat) (k : Nat) : upd (fun i => if i < k then othOf n f i else f i) k (othOf n f k) = fun i => if i < k + 1 then othOf n f i else f i := by
  funext i
  unfold upd
  by_cases h : i = k
  · subst h; simp
  · by_cases h2 : i < k
    · have : i < k + 1 := by omega
      simp [h, h2, this]
    · have : ¬ i < k + 1 := by omega
      simp [h, h2, this]

theorem oth_done (n : Nat) (f : Nat → Nat) : gcells n (fun i => if i < n then othOf n f i else f i) = gcells n (othOf n f) := by
  apply gcells_congr
  intro i _
  unfold othOf
  by_cases h : i < n <;> simp [h]

set_option maxHeartbeats 400000 in
theorem other_any (n : Nat) (f : Nat → Nat) (h8 : n ≤ 8) (hf : ∀ i, f i < 256) (w : World) :
    Calls Tryd.prog 65 #[.agg (gcells n f)] w fun e w' => e = .returned (.agg (gcells n (othOf n f))) ∧ Below w.heap.size w w' := by
  have g0 := gcells_zero n f
  go_enter Tryd.func65, Tryd.ntmps65
  go_wp2
  clear g0
  go_loopw [3, 6] (fun _ i wr => ∃ k : Nat, k ≤ n ∧ i = .int .i64 k ∧ Below w.heap.size w wr ∧ wr.heap[w.heap.size]? = some (.cells (gcells n (fun i => if i < k then othOf n f i else f i)) 53 (0, 0)) ∧
      wr.heap[w.heap.size + 1]? = some (.cells (gcells 0 (fun _ => 0)) 53 (0, 0)))
    (fun _ i _ => n - (intOf i).toNat)
  case atStart => exact ⟨0, by omega, rfl, ((Below.refl _ _).alloc (Nat.le_refl _) _).alloc (by simp) _, by simp only [Nat.not_lt_zero, if_false]; exact heap_alloc2_old _ _ _, heap_alloc2_new _ _ _⟩
  case round =>
    obtain ⟨k, hk, rfl, hb, hg, hr⟩ := hrel
    obtain ⟨f', hf'⟩ : ∃ f', (fun i => if i < k then othOf n f i else f i) = f' := ⟨_, rfl⟩
    rw [hf'] at hg
    by_cases hlt : k < n
    · obtain ⟨c0, cs, fz, hsz⟩ := graph_cells hg
      have c1 := cs 0 (by decide)
      have c2 := cs 1 (by decide)
      have c3 := cs 2 (by decide)
      have c4 := cs 3 (by decide)
      have c5 := cs 4 (by decide)
      have c6 := cs 5 (by decide)
      have c7 := cs 6 (by decide)
      have c8 := cs 7 (by decide)
      have ck := cs k (by omega)
      have fk := fz (1 + k)
      have hfk : f' k = f k := by rw [← hf']; simp
      have hm : (2 ^ n - 1) &&& (255 - 2 ^ k) < 256 := Nat.lt_of_le_of_lt (Nat.le_trans Nat.and_le_right (Nat.sub_le _ _)) (by decide)
      have hv : bits .andNot .i64 (((2 ^ n - 1) &&& (255 - 2 ^ k) : Nat) : Int) (f' k : Nat) = (othOf n f k : Nat) := by
        rw [hfk, andNot64 _ _ hm (hf k)]
        unfold othOf
        rw [if_pos hlt]
      have hn1 : 2 ^ n - 1 < 256 := by have := pow8_le (v := n) (by omega); have := Nat.two_pow_pos n; omega
      have hk8 : (k : Int) < 8 := by omega
      have HN := Lib.hid hn1
      have HG := Lib.hid hg
      have HR := Lib.hid hr
      have HF := Lib.hid hf'
      clear hg hr hf' cs fz hf hfk hm hn1
      go_wp2
      go_region_law (first
        | (go_simp; go_at_call 90; refine (nodes_any n f' h8 _).mono ?_; rintro e w' ⟨rfl, rfl⟩)
        | (go_simp; go_at_call 93; refine (without_any (2 ^ n - 1) k HN.out (by omega) _).mono ?_; rintro e w' ⟨rfl, rfl⟩))
      all_goals go_wp2
      all_goals go_roundw
      all_goals first
        | (refine ⟨k + 1, by omega, by go_num, ((hb.setCell (p := ⟨w.heap.size, 1 + k, none⟩) (Nat.le_refl _) _).alloc (by have := hb.size; simp; omega) _).drew, ?_, ?_⟩
           · show ((wr.setCell ⟨w.heap.size, 1 + k, none⟩ _).alloc _).heap[_]? = _
             rw [Below.heap_alloc _ _ _ (by simp; omega), graph_stored k _ (by omega) HG.out, ← HF.out, oth_step]
           · show ((wr.setCell ⟨w.heap.size, 1 + k, none⟩ _).alloc _).heap[_]? = _
             have hlt1 := (Array.getElem?_eq_some_iff.1 HR.out).1
             rw [Below.heap_alloc _ _ _ (by simp; omega), heap_setCell_other _ _ _ _ (by simp)]
             exact HR.out)
        | (simp [intOf]; omega)
    · obtain rfl : k = n := by omega
      have HG : Hid (wr.heap[w.heap.size]? = some (.cells (gcells k (othOf k f)) 53 (0, 0))) := by
        show _ = _
        rw [hg, ← hf', oth_done]
      have HR := Lib.hid hr
      have hc : wr.cell? ⟨w.heap.size, 0, none⟩ = some (.int .i64 k) := by rw [cell_of_row _ _ _ _ _ _ hg]; rfl
      clear hg hr hf'
      go_wp2_with (first
        | (refine load_graph rfl _ rfl _ k (othOf k f) rfl HG.out ?_)
        | (refine store_graph rfl _ _ rfl _ k (othOf k f) rfl rfl 0 (fun _ => 0) HR.out ?_))
      refine bodyPost_ret (v := .agg (gcells k (othOf k f))) (ret_graph rfl _ _ (w.heap.size + 1) k (othOf k f) rfl (heap_setRow_same HR.out)) rfl ⟨rfl, ?_⟩
      exact below_setRow hb (by omega) _

end Go.Proofs.YthafhcocgohjaabDoor
