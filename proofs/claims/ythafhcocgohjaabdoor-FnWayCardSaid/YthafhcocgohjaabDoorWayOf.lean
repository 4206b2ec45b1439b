/-
  impl.wayOf: the way of n nodes; it fails for other n.
-/
import Derived.Test.YthafhcocgohjaabDoorCore2
namespace Go.Proofs.YthafhcocgohjaabDoor
set_option linter.unusedVariables false
set_option linter.unusedSimpArgs false
open Go.RowKit

set_option maxRecDepth 100000 in
set_option maxHeartbeats 400000 in
theorem wayOf_no (n : Int) (h : n < 1 ∨ 8 < n) (w : World) :
    Calls Tryd.prog 68 #[.int .i64 n] w fun e w' => e = .returned (.tuple #[.agg (gcells 0 (fun _ => 0)), .bool false]) ∧ Below w.heap.size w w' := by
  go_enter Tryd.func68, Tryd.ntmps68
  go_wp2_with (first
    | (go_at_call 64; refine (bare_no n h _).mono ?_; rintro e w1 ⟨rfl, hb⟩; replace hb := below_new hb; obtain ⟨hb0, hr0, hz0⟩ := hb)
    | (refine store_graph_new rfl _ _ rfl 0 (fun _ => 0) rfl rfl ?_))
  obtain ⟨W, hW⟩ : ∃ W, w1.alloc (.cells (gcells 0 (fun _ => 0)) 53) = W := ⟨_, rfl⟩
  have hW0 : W.heap[w.heap.size]? = some (.cells (gcells 0 (fun _ => 0)) 53 (0, 0)) := by
    rw [← hW, Below.heap_alloc _ _ _ hz0, hr0]; rfl
  have hW1 : W.heap[w1.heap.size]? = some (.cells (gcells 0 (fun _ => 0)) 53 (0, 0)) := by rw [← hW]; exact World.alloc_heap_new _ _
  have hWb : Below w.heap.size w W := by rw [← hW]; exact hb0.alloc hb0.size _
  have hc : W.cell? ⟨w1.heap.size, 0, none⟩ = some (.int .i64 0) := by rw [cell_of_row _ _ _ _ _ _ hW1]; rfl
  rw [hW]
  clear hW
  have H0 := Lib.hid hW0
  have H1 := Lib.hid hW1
  clear hW0 hW1 hr0 hb0 hz0
  go_loop [6] (fun i => i = .int .i64 1) (fun _ => 0)
  case atStart => rfl
  case round =>
    subst hrel
    go_wp2_with (first
      | (refine load_graph rfl _ rfl _ 0 (fun _ => 0) rfl H1.out ?_)
      | (refine store_graph rfl _ _ rfl _ 0 (fun _ => 0) rfl rfl 0 (fun _ => 0) H0.out ?_))
    refine bodyPost_ret (v := .tuple #[.agg (gcells 0 (fun _ => 0)), .bool false]) (ret_graph2 rfl _ _ w.heap.size 0 (fun _ => 0) (.bool false) rfl rfl (heap_setRow_same H0.out)) rfl ⟨rfl, ?_⟩
    exact below_setRow hWb (Nat.le_refl _) _

set_option maxRecDepth 100000 in
set_option maxHeartbeats 400000 in
theorem wayOf_yes (n : Nat) (h1 : 1 ≤ n) (h8 : n ≤ 8) (w : World) :
    Calls Tryd.prog 68 #[.int .i64 (n : Int)] w fun e w' => e = .returned (.tuple #[.agg (gcells n (wayTo (n - 1))), .bool true]) ∧ Below w.heap.size w w' := by
  go_enter Tryd.func68, Tryd.ntmps68
  go_wp2_with (first
    | (go_at_call 64; refine (bare_yes n h1 h8 _).mono ?_; rintro e w1 ⟨rfl, hb⟩; replace hb := below_new hb; obtain ⟨hb0, hr0, hz0⟩ := hb)
    | (refine store_graph_new rfl _ _ rfl n (fun _ => 0) rfl rfl ?_))
  obtain ⟨W, hW⟩ : ∃ W, w1.alloc (.cells (gcells n (fun _ => 0)) 53) = W := ⟨_, rfl⟩
  have hW0 : W.heap[w.heap.size]? = some (.cells (gcells 0 (fun _ => 0)) 53 (0, 0)) := by
    rw [← hW, Below.heap_alloc _ _ _ hz0, hr0]; rfl
  have hW1 : W.heap[w1.heap.size]? = some (.cells (gcells n (fun _ => 0)) 53 (0, 0)) := by rw [← hW]; exact World.alloc_heap_new _ _
  have hWb : Below w.heap.size w W := by rw [← hW]; exact hb0.alloc hb0.size _
  rw [hW]
  clear hW
  have H0 := Lib.hid hW0
  have H1 := Lib.hid hW1
  clear hW0 hW1 hr0 hb0
  go_loopw [6] (fun i wr => ∃ k : Nat, k + 1 ≤ n ∧ i = .int .i64 (k + 1) ∧ Below w.heap.size w wr ∧ wr.heap[w.heap.size]? = some (.cells (gcells 0 (fun _ => 0)) 53 (0, 0)) ∧
      wr.heap[w1.heap.size]? = some (.cells (gcells n (wayTo k)) 53 (0, 0))) (fun i _ => n - (intOf i).toNat)
  case atStart => exact ⟨0, by omega, rfl, hWb, H0.out, H1.out⟩
  case round =>
    obtain ⟨k, hk, rfl, hb, hw0, hw1⟩ := hrel
    have hc : wr.cell? ⟨w1.heap.size, 0, none⟩ = some (.int .i64 n) := by rw [cell_of_row _ _ _ _ _ _ hw1]; rfl
    have K0 := Lib.hid hw0
    have K1 := Lib.hid hw1
    clear hw0 hw1 H0 H1 hWb
    by_cases hlt : k + 1 < n
    · have hlt1 : w1.heap.size < wr.heap.size := (Array.getElem?_eq_some_iff.1 K1.out).1
      have hlt0 : w.heap.size < wr.heap.size := (Array.getElem?_eq_some_iff.1 K0.out).1
      have hl := linked_any n (wayTo k) k (k + 1) (by omega) (by omega) (wayTo_lt k (by omega)) wr
      push_cast at hl
      have HL := Lib.hid hl
      clear hl
      go_wp2_with (refine load_graph rfl _ rfl _ n (wayTo k) rfl K1.out ?_)
      refine HL.out.mono ?_
      rintro e w2 ⟨rfl, hb2⟩
      have K2 : Hid (w2.heap[w1.heap.size]? = some (.cells (gcells n (wayTo k)) 53 (0, 0))) := (hb2.block _ hlt1).trans K1.out
      have K3 : Hid (w2.heap[w.heap.size]? = some (.cells (gcells 0 (fun _ => 0)) 53 (0, 0))) := (hb2.block _ hlt0).trans K0.out
      have hb3 : Below w.heap.size w w2 := hb.trans (hb2.mono (by omega))
      clear hb2 hb
      go_wp2_with (refine store_graph rfl _ _ rfl _ n (lnk (wayTo k) k (k + 1)) rfl rfl n (wayTo k) K2.out ?_)
      go_roundw
      case rel =>
        refine ⟨k + 1, by omega, by go_num, below_setRow hb3 (by omega) _, ?_, heap_setRow_same K2.out⟩
        rw [heap_setRow_other _ _ _ _ (by omega)]; exact K3.out
      case measure => simp [intOf]; omega
    · obtain rfl : n = k + 1 := by omega
      go_wp2_with (first
        | (refine load_graph rfl _ rfl _ (k + 1) (wayTo k) rfl K1.out ?_)
        | (refine store_graph rfl _ _ rfl _ (k + 1) (wayTo k) rfl rfl 0 (fun _ => 0) K0.out ?_))
      refine bodyPost_ret (v := .tuple #[.agg (gcells (k + 1) (wayTo k)), .bool true]) (ret_graph2 rfl _ _ w.heap.size (k + 1) (wayTo k) (.bool true) rfl rfl (heap_setRow_same K0.out)) rfl ⟨rfl, ?_⟩
      exact below_setRow hb (Nat.le_refl _) _

end Go.Proofs.YthafhcocgohjaabDoor
