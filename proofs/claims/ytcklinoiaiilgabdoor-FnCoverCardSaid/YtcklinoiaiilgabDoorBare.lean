/-
  impl.bareGraph, (graph).list, (graph).nodes: their contracts.
-/
import Derived.Test.YtcklinoiaiilgabDoorGraphs
namespace Go.Proofs.YtcklinoiaiilgabDoor
set_option linter.unusedVariables false
set_option linter.unusedSimpArgs false
open Go.RowKit

set_option maxHeartbeats 400000 in
theorem bare_yes (n : Nat) (h1 : 1 ≤ n) (h8 : n ≤ 8) (w : World) :
    Calls Tryd.prog 72 #[.int .i64 (n : Int)] w fun e w' => e = .returned (.tuple #[.agg (gcells n (fun _ => 0)), .bool true]) ∧ Below w.heap.size w w' := by
  go_enter Tryd.func72, Tryd.ntmps72
  go_wp2
  simp only [gcells_new]
  refine bodyPost_ret (v := .tuple #[.agg (gcells n (fun _ => 0)), .bool true]) (ret_graph2 rfl _ _ w.heap.size n (fun _ => 0) (.bool true) rfl rfl (World.alloc_heap_new w _)) rfl ⟨rfl, ?_⟩
  exact (Below.refl _ _).alloc (Nat.le_refl _) _

set_option maxHeartbeats 400000 in
theorem bare_no (n : Int) (h : n < 1 ∨ 8 < n) (w : World) :
    Calls Tryd.prog 72 #[.int .i64 n] w fun e w' => e = .returned (.tuple #[.agg (gcells 0 (fun _ => 0)), .bool false]) ∧ Below w.heap.size w w' := by
  rcases h with h | h
  · go_enter Tryd.func72, Tryd.ntmps72
    go_wp2
    simp only [gcells_zeros]
    refine bodyPost_ret (v := .tuple #[.agg (gcells 0 (fun _ => 0)), .bool false]) (ret_graph2 rfl _ _ w.heap.size 0 (fun _ => 0) (.bool false) rfl rfl (World.alloc_heap_new w _)) rfl ⟨rfl, ?_⟩
    exact (Below.refl _ _).alloc (Nat.le_refl _) _
  · have h' : ¬ n < 1 := by omega
    go_enter Tryd.func72, Tryd.ntmps72
    go_wp2
    simp only [gcells_zeros]
    refine bodyPost_ret (v := .tuple #[.agg (gcells 0 (fun _ => 0)), .bool false]) (ret_graph2 rfl _ _ w.heap.size 0 (fun _ => 0) (.bool false) rfl rfl (World.alloc_heap_new w _)) rfl ⟨rfl, ?_⟩
    exact (Below.refl _ _).alloc (Nat.le_refl _) _

set_option maxHeartbeats 400000 in
theorem nodes_any (n : Nat) (f : Nat → Nat) (h8 : n ≤ 8) (w : World) :
    Calls Tryd.prog 106 #[.agg (gcells n f)] w fun e w' => e = .returned (.int .i64 ((2 ^ n - 1 : Nat) : Int)) ∧ w' = w.alloc (.cells (gcells n f) 55) := by
  have g0 := gcells_zero n f
  go_enter Tryd.func106, Tryd.ntmps106
  go_wp2_with (go_at_call 141; refine (nodesBelow_any n (by omega) _).mono ?_; rintro e w' ⟨rfl, rfl⟩)
  go_ret
  exact ⟨rfl, rfl⟩

set_option maxHeartbeats 400000 in
theorem list_any (n : Nat) (f : Nat → Nat) (h8 : n ≤ 8) (w : World) :
    Calls Tryd.prog 74 #[.agg (gcells n f)] w fun e w' => e = .returned (.slice (some ⟨w.heap.size + 1, 0, none⟩) n n) ∧ Below w.heap.size w w' ∧ Owns w' w.heap.size (.slice (some ⟨w.heap.size + 1, 0, none⟩) n n) (glist n f) := by
  have hmk := fun W => run_make_row' (P := Tryd.prog) 24 3 (.int .i64 0) 8 Tryd.underlying24 infoInt rfl .i64 .i64 n (by omega) (by omega) W
  have g0 := gcells_zero n f
  go_enter Tryd.func74, Tryd.ntmps74
  go_wp2
  clear g0
  go_loopw [4, 10] (fun _ i wr => ∃ k : Nat, k ≤ n ∧ i = .int .i64 k ∧ Below w.heap.size w wr ∧ wr.heap[w.heap.size]? = some (.cells (gcells n f) 55 (0, 0)) ∧
      wr.ownsRow w.heap.size 3 1 (.slice (some ⟨w.heap.size + 1, 0, none⟩) n n) n (vals (glist n (fun i => if i < k then f i else 0))))
    (fun _ i _ => n - (intOf i).toNat)
  case atStart =>
    refine ⟨0, by omega, rfl, ((Below.refl _ _).alloc (Nat.le_refl _) _).alloc (by simp) _, heap_alloc2_old _ _ _, ?_⟩
    have := World.ownsRow_lit (base := w.heap.size) (e := 3) (size := 1) (w.alloc (.cells (gcells n f) 55)) (madeCells #[Value.int .i64 0] n) n (by simp) (by unfold maxLen; omega) (by simp [madeCells])
    rw [toList_madeCells_one, ← glist_zero] at this
    simpa [wayTo] using this
  case round =>
    obtain ⟨k, hk, rfl, hb, hg, ho⟩ := hrel
    by_cases hlt : k < n
    · have hf1 := ho.frozenAt k
      have hx1 := (ho.cellAt k (by omega)).trans (glist_cell n _ k (by omega))
      have hgc : wr.cell? ⟨w.heap.size, 1 + k, none⟩ = some (.int .i64 (f k : Nat)) := by
        rw [cell_of_row _ _ _ _ _ _ hg]; exact gcells_at n f k (by omega)
      have HO := Lib.hid ho
      have HG := Lib.hid hg
      clear ho hg
      go_wp2
      go_roundw
      case rel =>
        have e1 := (HO.out.stored k (.int .i64 ((f k : Nat) : Int))).1
        rw [glist_set] at e1
        refine ⟨k + 1, by omega, by go_num, hb.setCell (p := ⟨w.heap.size + 1, k, none⟩) (by simp) _, ?_, ?_⟩
        · rw [heap_setCell_other _ _ _ _ (by simp)]; exact HG.out
        · rw [glist_congr (n := n) (g := upd (fun i => if i < k then f i else 0) k (f k)) ?_]
          · exact e1
          · intro i _
            unfold upd
            by_cases h : i = k
            · subst h; simp
            · rw [if_neg h]
              by_cases h2 : i < k
              · have h3 : i < k + 1 := by omega
                simp [h2, h3]
              · have h3 : ¬ i < k + 1 := by omega
                simp [h2, h3]
      case measure => simp [intOf]; omega
    · obtain rfl : k = n := by omega
      have HO := Lib.hid ho
      clear ho hg
      go_wp2
      go_ret
      refine ⟨rfl, hb, ?_⟩
      have := HO.out
      rw [glist_congr (g := f) (fun i hi => by simp [hi])] at this
      show World.ownsRow _ _ _ _ _ (glist k f).length _
      rw [glist_len]
      exact this

end Go.Proofs.YtcklinoiaiilgabDoor
