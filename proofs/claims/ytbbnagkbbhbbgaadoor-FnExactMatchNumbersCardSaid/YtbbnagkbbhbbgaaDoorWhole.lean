/-
  (impl.counter).whole: the matching numbers of the graph.
-/
import Derived.Test.YtbbnagkbbhbbgaaDoorCounterAny
import Derived.Test.YtbbnagkbbhbbgaaDoorCore2
import Derived.Deep.RegionWith
namespace Go.Proofs.YtbbnagkbbhbbgaaDoor
set_option linter.unusedVariables false
set_option linter.unusedSimpArgs false
open Go.RowKit Go.Shelf

theorem run_store_nums (w : World) (b : Nat) (g g0 : Nat → Nat) (hg : w.heap[b]? = some (.cells (ncells g0) 40 (0, 0))) :
    (storeCells ⟨b, 0, none⟩ (ncells g).toList).run Tryd.prog w = .ok () (w.setRow b (ncells g)) := by
  have := run_storeCells_from (P := Tryd.prog) b 40 (ncells g).toList 0 (ncells g0) w hg (by simp [ncells_size]) (fun v hv => (Array.all_eq_true_iff_forall_mem.1 (ncells_one g)) v (by simpa using hv))
  simpa using this

set_option maxRecDepth 100000 in
set_option maxHeartbeats 2000000 in
theorem whole_any (n : Nat) (f : Nat → Nat) (h8 : n ≤ 8) (hf : ∀ i, f i < 256) (B m : Nat) (hgB : 1 < B) (w : World) (hM : Memo w B f m) (hT : Tab w) (hm : m + cnt (2 ^ n - 1) ≤ 1000000000000) :
    Calls Tryd.prog 13 #[.agg (ccells n f B)] w (OfPost w B f (2 ^ n - 1) (m + cnt (2 ^ n - 1))) := by
  have hs : 2 ^ n - 1 < 256 := by have := Nat.pow_le_pow_right (n := 2) (by decide) h8; omega
  have hof := of_any n f hf B hgB (2 ^ n - 1) hs
  have hno := nodes_any n f h8
  have HM := Lib.hid hM
  have HT := Lib.hid hT
  have HOF := Lib.hid hof
  have HNO := Lib.hid hno
  clear hM hT hof hno
  have hb1 : Below w.heap.size w (w.alloc (.cells (ccells n f B) 36)) := (Below.refl _ _).alloc (Nat.le_refl _) _
  have hc1 : (w.alloc (.cells (ccells n f B) 36)).heap[w.heap.size]? = some (.cells (ccells n f B) 36 (0, 0)) := World.alloc_heap_new _ _
  obtain ⟨W1, hW1⟩ : ∃ W1, w.alloc (.cells (ccells n f B) 36) = W1 := ⟨_, rfl⟩
  rw [hW1] at hb1 hc1
  go_enter Tryd.func13, Tryd.ntmps13
  go_wp2
  have hT1 := HT.out.later hb1
  have hM1 := HM.out.below hb1
  have hsz : W1.heap.size = w.heap.size + 1 := by rw [← hW1]; simp
  obtain ⟨W2, hW2⟩ : ∃ W2, W1.alloc (.cells #[.int .i64 0, .int .i64 0, .int .i64 0, .int .i64 0, .int .i64 0] 40) = W2 := ⟨_, rfl⟩
  have hb2 : Below W1.heap.size W1 W2 := by rw [← hW2]; exact (Below.refl _ _).alloc (Nat.le_refl _) _
  have hsz2 : W2.heap.size = W1.heap.size + 1 := by rw [← hW2]; simp
  have hr2 : W2.heap[W1.heap.size]? = some (.cells (ncells fun _ => 0) 40 (0, 0)) := by rw [← hW2]; exact World.alloc_heap_new _ _
  have hlt := HM.out.lt
  rename_i K0 hK0
  have KEY : ∀ (u3 u5 u6 : Value) (w3 : World), OfPost (W2.drew.alloc (.cells (gcells n f) 33)) B f (2 ^ n - 1) (m + cnt (2 ^ n - 1)) (.returned (.agg (ncells (nums f (2 ^ n - 1))))) w3 →
      K0 { tmps := #[.agg (ccells n f B), .pointer (some ⟨w.heap.size, 0, none⟩), .pointer (some ⟨W1.heap.size, 0, none⟩), u3, .pointer (some ⟨w.heap.size, 0, none⟩), u5, u6, .agg (ncells (nums f (2 ^ n - 1)))], defers := [] } (w3.setRow W1.heap.size (ncells (nums f (2 ^ n - 1)))) := by
    rintro u3 u5 u6 w3 ⟨-, hM3, hw3⟩
    refine hK0 _ _ ?_
    go_wp2
    have hsz3 := hw3.size
    rw [World.size_alloc] at hsz3
    have hsd : W2.drew.heap.size = W2.heap.size := rfl
    have hlt2 : W1.heap.size < (W2.drew.alloc (.cells (gcells n f) 33)).heap.size := by simp [hsd]; omega
    have hr3 : w3.heap[W1.heap.size]? = some (.cells (ncells fun _ => 0) 40 (0, 0)) := (hw3.block _ hlt2 (.inr (by omega))).trans ((Below.heap_alloc _ _ _ (by rw [hsd]; omega)).trans hr2)
    have hgr : w3.grownBy (w3.setRow W1.heap.size (ncells (nums f (2 ^ n - 1)))) (some W1.heap.size) := ⟨rfl, rfl, rfl, by simp [World.setRow], fun k _ hk => heap_setRow_other _ _ _ _ (fun e => hk (by rw [e]))⟩
    have hbd : Below w.heap.size w (W2.drew.alloc (.cells (gcells n f) 33)) := ((hb1.trans (hb2.mono hb1.size)).drew).alloc (by rw [hsd]; omega) _
    have hwd : Within B (B + 1) w w3 := (⟨hbd.os, hbd.tape, hbd.output, hbd.size, fun k hk _ => hbd.block k hk⟩ : Within B (B + 1) w _).trans hw3
    refine bodyPost_ret (v := .agg (ncells (nums f (2 ^ n - 1)))) (ret_nums rfl _ _ W1.heap.size (nums f (2 ^ n - 1)) rfl (heap_setRow_same hr3)) rfl ⟨rfl, hM3.kept hgr (by simp; omega), ?_⟩
    exact ⟨hwd.os, hwd.tape, hwd.output, Nat.le_trans hwd.size hgr.size, fun k hk ho => (heap_setRow_other _ _ _ _ (by omega)).trans (hwd.block k hk ho)⟩
  clear hK0
  have hc2 : W2.heap[w.heap.size]? = some (.cells (ccells n f B) 36 (0, 0)) := (hb2.block _ (by omega)).trans hc1
  obtain ⟨c0, cs, c9, _, _⟩ := counter_cells hc2
  have c1 : W2.cell? ⟨w.heap.size, 1, none⟩ = _ := cs 0 (by decide)
  have c2 : W2.cell? ⟨w.heap.size, 2, none⟩ = _ := cs 1 (by decide)
  have c3 : W2.cell? ⟨w.heap.size, 3, none⟩ = _ := cs 2 (by decide)
  have c4 : W2.cell? ⟨w.heap.size, 4, none⟩ = _ := cs 3 (by decide)
  have c5 : W2.cell? ⟨w.heap.size, 5, none⟩ = _ := cs 4 (by decide)
  have c6 : W2.cell? ⟨w.heap.size, 6, none⟩ = _ := cs 5 (by decide)
  have c7 : W2.cell? ⟨w.heap.size, 7, none⟩ = _ := cs 6 (by decide)
  have c8 : W2.cell? ⟨w.heap.size, 8, none⟩ = _ := cs 7 (by decide)
  have hsd : W2.drew.heap.size = W2.heap.size := rfl
  have hbd : Below W1.heap.size W1 (W2.drew.alloc (.cells (gcells n f) 33)) := (hb2.drew).alloc (by rw [hsd]; omega) _
  have hcall := HOF.out (W2.drew.alloc (.cells (gcells n f) 33)) m (hM1.below hbd) (hT1.later hbd) hm
  have hlt2 : W1.heap.size < (W2.drew.alloc (.cells (gcells n f) 33)).heap.size := by simp [hsd]; omega
  have hr2d : (W2.drew.alloc (.cells (gcells n f) 33)).heap[W1.heap.size]? = some (.cells (ncells fun _ => 0) 40 (0, 0)) := (Below.heap_alloc _ _ _ (by rw [hsd]; omega)).trans hr2
  have hBn : B + 1 ≤ W1.heap.size := by omega
  have HCALL := Lib.hid hcall
  have HR2 := Lib.hid hr2d
  rw [hW2]
  clear cs hc2 hW2 hcall hr2d hb2 hr2 hb1 hc1 hW1 hbd hM1 hT1 hsz hsz2 hsd
  go_region_with (first
    | (go_at_call 22; refine (HNO.out _).mono ?_; rintro e w' ⟨rfl, rfl⟩)
    | (go_at_call 21; refine HCALL.out.mono ?_; rintro e w3 ⟨rfl, h1, h2⟩; have hrn := run_store_nums w3 W1.heap.size (nums f (2 ^ n - 1)) (fun _ => 0) ((h2.block _ (by exact hlt2) (.inr (by exact hBn))).trans HR2.out); have hsz9 := ncells_size (nums f (2 ^ n - 1))))
  all_goals exact KEY _ _ _ _ ⟨rfl, h1, h2⟩

end Go.Proofs.YtbbnagkbbhbbgaaDoor
