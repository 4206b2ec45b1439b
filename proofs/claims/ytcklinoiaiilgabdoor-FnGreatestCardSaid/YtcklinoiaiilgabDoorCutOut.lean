/-
  (graph).without: the graph without a node.
-/
import Derived.Test.YtcklinoiaiilgabDoorBare
import Derived.Test.YtcklinoiaiilgabDoorDrop
import Derived.Test.YtcklinoiaiilgabDoorHas
namespace Go.Proofs.YtcklinoiaiilgabDoor
set_option linter.unusedVariables false
set_option linter.unusedSimpArgs false
open Go.RowKit

/-- The sets without a node. -/
def shutOf (f : Nat → Nat) (v : Nat) : Nat → Nat := fun i => drp (f (if i < v then i else i + 1)) v

theorem shut_step (f : Nat → Nat) (v k : Nat) : upd (fun i => if i < k then shutOf f v i else 0) k (shutOf f v k) = fun i => if i < k + 1 then shutOf f v i else 0 := by
  funext i
  unfold upd
  by_cases h : i = k
  · subst h; simp
  · by_cases h2 : i < k
    · have : i < k + 1 := by omega
      simp [h, h2, this]
    · have : ¬ i < k + 1 := by omega
      simp [h, h2, this]

set_option maxHeartbeats 1000000 in
theorem cutOut_any (n : Nat) (f : Nat → Nat) (v : Nat) (h2 : 2 ≤ n) (h8 : n ≤ 8) (hv : v < n) (hf : ∀ i, f i < 256) (w : World) :
    Calls Tryd.prog 104 #[.agg (gcells n f), .int .i64 (v : Int)] w fun e w' => e = .returned (.agg (gcells (n - 1) (fun i => if i < n - 1 then shutOf f v i else 0))) ∧ Below w.heap.size w w' := by
  have g0 := gcells_zero n f
  obtain ⟨m, rfl⟩ : ∃ m, n = m + 1 := ⟨n - 1, by omega⟩
  have hm1 : IntKind.i64.wrap (((m + 1 : Nat) : Int) - 1) = (m : Int) := wrap_prev' (by omega)
  have hm2 : wrap64 (((m + 1 : Nat) : Int) - 1) = (m : Int) := wrap_prev (by omega)
  rw [Nat.add_sub_cancel]
  go_enter Tryd.func104, Tryd.ntmps104
  go_wp2
  simp only [gcells_new]
  clear g0
  go_loopw [6, 7, 14] (fun _ _ i wr => ∃ k : Nat, k ≤ m ∧ i = .int .i64 k ∧ Below w.heap.size w wr ∧ wr.heap[w.heap.size]? = some (.cells (gcells (m + 1) f) 55 (0, 0)) ∧
      wr.heap[w.heap.size + 1]? = some (.cells (gcells 0 (fun _ => 0)) 55 (0, 0)) ∧ wr.heap[w.heap.size + 1 + 1]? = some (.cells (gcells m (fun i => if i < k then shutOf f v i else 0)) 55 (0, 0)))
    (fun _ _ i _ => m - (intOf i).toNat)
  case atStart =>
    refine ⟨0, by omega, rfl, (((Below.refl _ _).alloc (Nat.le_refl _) _).alloc (by simp) _).alloc (by simp; omega) _, ?_, ?_, ?_⟩
    · rw [Below.heap_alloc _ _ _ (by simp; omega)]; exact heap_alloc2_old _ _ _
    · rw [Below.heap_alloc _ _ _ (by simp)]; exact heap_alloc2_new _ _ _
    · simp only [Nat.not_lt_zero, if_false]
      have := World.alloc_heap_new ((w.alloc (.cells (gcells (m + 1) f) 55)).alloc (.cells (gcells 0 (fun _ => 0)) 55)) (.cells (gcells m (fun _ => 0)) 55)
      rwa [World.size_alloc, World.size_alloc] at this
  case round =>
    obtain ⟨k, hk, rfl, hb, hg, hr, hs⟩ := hrel
    obtain ⟨f', hf'⟩ : ∃ f', (fun i => if i < k then shutOf f v i else 0) = f' := ⟨_, rfl⟩
    rw [hf'] at hs
    by_cases hlt : k < m
    · obtain ⟨_, cs, _, _⟩ := graph_cells hg
      obtain ⟨_, ds, fz, _⟩ := graph_cells hs
      have dk := ds k (by omega)
      have fk := fz (1 + k)
      have hk8 : (k : Int) < 8 := by omega
      have HG := Lib.hid hg
      have HR := Lib.hid hr
      have HS := Lib.hid hs
      have HF := Lib.hid hf'
      clear hg hr hs hf' ds fz
      by_cases hkv : k < v
      · have ck := cs k (by omega)
        have hfk := hf k
        have hsh : shutOf f v k = drp (f k) v := by unfold shutOf; rw [if_pos hkv]
        have hlv : ¬ (v : Int) ≤ (k : Int) := by omega
        have HSH := Lib.hid hsh
        clear hsh cs hf
        go_wp2_with (go_at_call 139; refine (closedUp_any (f k) v hfk (by omega) _).mono ?_; rintro e w' ⟨rfl, q, rfl⟩)
        go_roundw
        case rel =>
          refine ⟨k + 1, by omega, by go_num, (below_drewN hb q).setCell (p := ⟨w.heap.size + 1 + 1, 1 + k, none⟩) (by simp; omega) _, ?_, ?_, ?_⟩
          · rw [heap_setCell_other _ _ _ _ (by simp; omega)]; exact HG.out
          · rw [heap_setCell_other _ _ _ _ (by simp)]; exact HR.out
          · rw [graph_stored (w := wr.drewN q) k _ (by omega) HS.out, ← HF.out, ← HSH.out, shut_step]
        case measure => simp [intOf]; omega
      · clear hm1 hm2
        obtain ⟨j, hj⟩ : ∃ j, j = k + 1 := ⟨_, rfl⟩
        have hw5 : (j : Int) < 8 := by omega
        have ck := cs j (by omega)
        have hfk := hf j
        have hsh : shutOf f v k = drp (f j) v := by unfold shutOf; rw [if_neg hkv, hj]
        have hlv : (v : Int) ≤ (k : Int) := by omega
        have hw1 : IntKind.i64.wrap ((k : Int) + 1) = (j : Int) := by rw [wrap_next' (by omega), hj]; rfl
        have hw4 : wrap64 ((k : Int) + 1) = (j : Int) := by rw [wrap_next (by omega), hj]; rfl
        have HSH := Lib.hid hsh
        have HJ := Lib.hid hj
        clear hsh cs hf hj
        go_wp2_with (go_at_call 139; refine (closedUp_any (f j) v hfk (by omega) _).mono ?_; rintro e w' ⟨rfl, q, rfl⟩)
        go_roundw
        case rel =>
          refine ⟨j, by have := HJ.out; omega, by first | rfl | go_num, (below_drewN hb q).setCell (p := ⟨w.heap.size + 1 + 1, 1 + k, none⟩) (by simp; omega) _, ?_, ?_, ?_⟩
          · rw [heap_setCell_other _ _ _ _ (by simp; omega)]; exact HG.out
          · rw [heap_setCell_other _ _ _ _ (by simp)]; exact HR.out
          · rw [graph_stored (w := wr.drewN q) k _ (by omega) HS.out, ← HF.out, ← HSH.out, shut_step, HJ.out]
        case measure => simp [intOf]; have := HJ.out; omega
    · obtain rfl : k = m := by omega
      have HG : Hid (wr.heap[w.heap.size + 1 + 1]? = some (.cells (gcells k (fun i => if i < k then shutOf f v i else 0)) 55 (0, 0))) := by
        show _ = _
        rw [hs, ← hf']
      have HR := Lib.hid hr
      clear hs hr hg hf hf'
      go_wp2_with (first
        | (refine load_graph rfl _ rfl _ k (fun i => if i < k then shutOf f v i else 0) rfl HG.out ?_)
        | (refine store_graph rfl _ _ rfl _ k (fun i => if i < k then shutOf f v i else 0) rfl rfl 0 (fun _ => 0) HR.out ?_))
      refine bodyPost_ret (v := .agg (gcells k (fun i => if i < k then shutOf f v i else 0))) (ret_graph rfl _ _ (w.heap.size + 1) k _ rfl (heap_setRow_same HR.out)) rfl ⟨rfl, ?_⟩
      exact below_setRow hb (by omega) _

end Go.Proofs.YtcklinoiaiilgabDoor
