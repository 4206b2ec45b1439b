/-
  Fit1: Drop Has CutOut SpecOut.
-/
import Derived.Test.YtnmemefkeehjjabDoorCore1
import Derived.Deep.RegionLaw
import Derived.Test.YtnmemefkeehjjabDoorCore2
import Derived.Deep.AppendLies
/-
  A node taken out of a set: what both sides do.
-/
namespace Go.Proofs.YtnmemefkeehjjabDoor
set_option linter.unusedVariables false
set_option linter.unusedSimpArgs false
open Go.RowKit

/-- The set without a node, all greater ones called 1 less. -/
def drp (s v : Nat) : Nat := (s &&& (2 ^ v - 1)) ||| (s / 2 ^ (v + 1) * 2 ^ v)

theorem drp_all : ∀ (s : Fin 256) (v : Fin 8), drp s.val v.val < 128 := by decide +kernel
theorem drp_lt {s v : Nat} (hs : s < 256) (hv : v < 8) : drp s v < 128 := drp_all ⟨s, hs⟩ ⟨v, hv⟩
theorem high_all : ∀ (s : Fin 256) (v : Fin 8), s.val / 2 ^ (v.val + 1) * 2 ^ v.val < 128 := by decide +kernel

theorem drp_val {s v : Nat} (hs : s < 256) (hv : v < 8) :
    bits .or .i64 (bits .and .i64 (s : Int) ((2 ^ v - 1 : Nat) : Int)) (wrap64 ((s : Int) / 2 ^ (v + 1) * 2 ^ v)) = (drp s v : Int) := by
  have h := pow8_le (v := v) (by omega)
  have e : (s : Int) / 2 ^ (v + 1) * 2 ^ v = ((s / 2 ^ (v + 1) * 2 ^ v : Nat) : Int) := by push_cast; rfl
  have h1 := high_all ⟨s, hs⟩ ⟨v, hv⟩
  simp only at h1
  have h2 : s &&& (2 ^ v - 1) ≤ s := Nat.and_le_left
  rw [e, and64 _ _ (by omega) (by omega)]
  have h3 : wrap64 ((s / 2 ^ (v + 1) * 2 ^ v : Nat) : Int) = ((s / 2 ^ (v + 1) * 2 ^ v : Nat) : Int) := by
    generalize s / 2 ^ (v + 1) * 2 ^ v = m at h1
    unfold wrap64; omega
  rw [h3, or64 _ _ (by omega) (by omega)]
  rfl

theorem wrap_next {k : Nat} (h : k < 8) : wrap64 ((k : Int) + 1) = (k : Int) + 1 := by unfold wrap64; omega
theorem wrap_next' {k : Nat} (h : k < 8) : IntKind.i64.wrap ((k : Int) + 1) = (k : Int) + 1 := by rw [wrap_eq]; exact wrap_next h
theorem wrap_prev {m : Nat} (h : m < 8) : wrap64 (((m + 1 : Nat) : Int) - 1) = (m : Int) := by unfold wrap64; omega
theorem wrap_prev' {m : Nat} (h : m < 8) : IntKind.i64.wrap (((m + 1 : Nat) : Int) - 1) = (m : Int) := by rw [wrap_eq]; exact wrap_prev h

set_option maxHeartbeats 400000 in
theorem closedUp_any (s v : Nat) (hs : s < 256) (hv : v < 8) (w : World) :
    Calls Tryd.prog 70 #[.int .i64 (s : Int), .int .i64 (v : Int)] w fun e w' => e = .returned (.int .i64 (drp s v : Int)) ∧ ∃ q, w' = w.drewN q := by
  have H := Lib.hid (drp_val hs hv)
  have hv' : (v : Int) < 8 := by omega
  have hw1 : IntKind.i64.wrap ((v : Int) + 1) = (v : Int) + 1 := by rw [wrap_eq]; unfold wrap64; omega
  have hw2 : ¬ (v : Int) + 1 < 0 := by omega
  have hw3 : ((v : Int) + 1).toNat = v + 1 := by omega
  have hw4 : wrap64 ((v : Int) + 1) = (v : Int) + 1 := by unfold wrap64; omega
  clear hs
  go_enter Tryd.func70, Tryd.ntmps70
  go_wp2
  go_region_law (go_simp; go_at_call 81; refine (nodesBelow_any v (by omega) _).mono ?_; rintro e w' ⟨rfl, rfl⟩)
  all_goals go_wp2
  all_goals go_ret
  all_goals exact ⟨ret_int (by rw [wrap_eq]; exact H.out), 1, rfl⟩

set_option maxHeartbeats 400000 in
theorem l1Drop_any (s v : Nat) (hs : s < 256) (hv : v < 8) (w : World) :
    Calls Tryd.prog 80 #[.int .i64 (s : Int), .int .i64 (v : Int)] w fun e w' => e = .returned (.int .i64 (drp s v : Int)) ∧ w = w' := by
  have e := low_wrap (v := v) (by omega)
  have hd := drp_val hs hv
  rw [← e] at hd
  have H := Lib.hid hd
  have hv' : (v : Int) < 8 := by omega
  clear hs e hd
  go_enter Tryd.func80, Tryd.ntmps80
  go_wp2
  go_ret
  exact ⟨ret_int H.out, rfl⟩

end Go.Proofs.YtnmemefkeehjjabDoor

/-
  (graph).hasNode: whether a number is a node.
-/
namespace Go.Proofs.YtnmemefkeehjjabDoor
set_option linter.unusedVariables false
set_option linter.unusedSimpArgs false
open Go.RowKit

set_option maxHeartbeats 400000 in
theorem hasNode_any (n : Nat) (f : Nat → Nat) (v : Int) (w : World) :
    Calls Tryd.prog 35 #[.agg (gcells n f), .int .i64 v] w fun e w' => e = .returned (.bool (decide (0 ≤ v ∧ v < (n : Int)))) ∧ Below w.heap.size w w' := by
  have g0 := gcells_zero n f
  by_cases h1 : 0 ≤ v
  · go_enter Tryd.func35, Tryd.ntmps35
    go_wp2
    go_ret
    exact ⟨ret_bool (by first | (simp [h1]; done) | (simp; omega)), (Below.refl _ _).alloc (Nat.le_refl _) _⟩
  · go_enter Tryd.func35, Tryd.ntmps35
    go_wp2
    go_ret
    exact ⟨ret_bool (by first | (simp [h1]; done) | (simp; omega)), (Below.refl _ _).alloc (Nat.le_refl _) _⟩

set_option maxHeartbeats 400000 in
theorem hasNode_is (n : Nat) (f : Nat → Nat) (v : Int) (w : World) :
    Calls Tryd.prog 35 #[.agg (gcells n f), .int .i64 v] w fun e w' => e = .returned (.bool (decide (0 ≤ v ∧ v < (n : Int)))) ∧ w' = w.alloc (.cells (gcells n f) 42) := by
  have g0 := gcells_zero n f
  by_cases h1 : 0 ≤ v
  · go_enter Tryd.func35, Tryd.ntmps35
    go_wp2
    go_ret
    exact ⟨ret_bool (by first | (simp [h1]; done) | (simp; omega)), rfl⟩
  · go_enter Tryd.func35, Tryd.ntmps35
    go_wp2
    go_ret
    exact ⟨ret_bool (by first | (simp [h1]; done) | (simp; omega)), rfl⟩

end Go.Proofs.YtnmemefkeehjjabDoor

/-
  (graph).without: the graph without a node.
-/
namespace Go.Proofs.YtnmemefkeehjjabDoor
set_option linter.unusedVariables false
set_option linter.unusedSimpArgs false
open Go.RowKit

/-- The sets without a node. -/
def shutOf (f : Nat → Nat) (v : Nat) : Nat → Nat := fun i => drp (f (if i < v then i else i + 1)) v

theorem shut_step (f : Nat → Nat) (v k : Nat) : upd (fun i => if i < k then shutOf f v i else 0) k (shutOf f v k) = fun i => if i < k + 1 then shutOf f v i else 0 := by
  funext i
  unfold upd
  by_cases h : i = k
  · subst h; simp
  · by_cases h2 : i < k
    · have : i < k + 1 := by omega
      simp [h, h2, this]
    · have : ¬ i < k + 1 := by omega
      simp [h, h2, this]

set_option maxHeartbeats 1000000 in
theorem cutOut_any (n : Nat) (f : Nat → Nat) (v : Nat) (h2 : 2 ≤ n) (h8 : n ≤ 8) (hv : v < n) (hf : ∀ i, f i < 256) (w : World) :
    Calls Tryd.prog 36 #[.agg (gcells n f), .int .i64 (v : Int)] w fun e w' => e = .returned (.agg (gcells (n - 1) (fun i => if i < n - 1 then shutOf f v i else 0))) ∧ Below w.heap.size w w' := by
  have g0 := gcells_zero n f
  obtain ⟨m, rfl⟩ : ∃ m, n = m + 1 := ⟨n - 1, by omega⟩
  have hm1 : IntKind.i64.wrap (((m + 1 : Nat) : Int) - 1) = (m : Int) := wrap_prev' (by omega)
  have hm2 : wrap64 (((m + 1 : Nat) : Int) - 1) = (m : Int) := wrap_prev (by omega)
  rw [Nat.add_sub_cancel]
  go_enter Tryd.func36, Tryd.ntmps36
  go_wp2
  simp only [gcells_new]
  clear g0
  go_loopw [6, 7, 14] (fun _ _ i wr => ∃ k : Nat, k ≤ m ∧ i = .int .i64 k ∧ Below w.heap.size w wr ∧ wr.heap[w.heap.size]? = some (.cells (gcells (m + 1) f) 42 (0, 0)) ∧
      wr.heap[w.heap.size + 1]? = some (.cells (gcells 0 (fun _ => 0)) 42 (0, 0)) ∧ wr.heap[w.heap.size + 1 + 1]? = some (.cells (gcells m (fun i => if i < k then shutOf f v i else 0)) 42 (0, 0)))
    (fun _ _ i _ => m - (intOf i).toNat)
  case atStart =>
    refine ⟨0, by omega, rfl, (((Below.refl _ _).alloc (Nat.le_refl _) _).alloc (by simp) _).alloc (by simp; omega) _, ?_, ?_, ?_⟩
    · rw [Below.heap_alloc _ _ _ (by simp; omega)]; exact heap_alloc2_old _ _ _
    · rw [Below.heap_alloc _ _ _ (by simp)]; exact heap_alloc2_new _ _ _
    · simp only [Nat.not_lt_zero, if_false]
      have := World.alloc_heap_new ((w.alloc (.cells (gcells (m + 1) f) 42)).alloc (.cells (gcells 0 (fun _ => 0)) 42)) (.cells (gcells m (fun _ => 0)) 42)
      rwa [World.size_alloc, World.size_alloc] at this
  case round =>
    obtain ⟨k, hk, rfl, hb, hg, hr, hs⟩ := hrel
    obtain ⟨f', hf'⟩ : ∃ f', (fun i => if i < k then shutOf f v i else 0) = f' := ⟨_, rfl⟩
    rw [hf'] at hs
    by_cases hlt : k < m
    · obtain ⟨_, cs, _, _⟩ := graph_cells hg
      obtain ⟨_, ds, fz, _⟩ := graph_cells hs
      have dk := ds k (by omega)
      have fk := fz (1 + k)
      have hk8 : (k : Int) < 8 := by omega
      have HG := Lib.hid hg
      have HR := Lib.hid hr
      have HS := Lib.hid hs
      have HF := Lib.hid hf'
      clear hg hr hs hf' ds fz
      by_cases hkv : k < v
      · have ck := cs k (by omega)
        have hfk := hf k
        have hsh : shutOf f v k = drp (f k) v := by unfold shutOf; rw [if_pos hkv]
        have hlv : ¬ (v : Int) ≤ (k : Int) := by omega
        have HSH := Lib.hid hsh
        clear hsh cs hf
        go_wp2_with (go_at_call 70; refine (closedUp_any (f k) v hfk (by omega) _).mono ?_; rintro e w' ⟨rfl, q, rfl⟩)
        go_roundw
        case rel =>
          refine ⟨k + 1, by omega, by go_num, (below_drewN hb q).setCell (p := ⟨w.heap.size + 1 + 1, 1 + k, none⟩) (by simp; omega) _, ?_, ?_, ?_⟩
          · rw [heap_setCell_other _ _ _ _ (by simp; omega)]; exact HG.out
          · rw [heap_setCell_other _ _ _ _ (by simp)]; exact HR.out
          · rw [graph_stored (w := wr.drewN q) k _ (by omega) HS.out, ← HF.out, ← HSH.out, shut_step]
        case measure => simp [intOf]; omega
      · clear hm1 hm2
        obtain ⟨j, hj⟩ : ∃ j, j = k + 1 := ⟨_, rfl⟩
        have hw5 : (j : Int) < 8 := by omega
        have ck := cs j (by omega)
        have hfk := hf j
        have hsh : shutOf f v k = drp (f j) v := by unfold shutOf; rw [if_neg hkv, hj]
        have hlv : (v : Int) ≤ (k : Int) := by omega
        have hw1 : IntKind.i64.wrap ((k : Int) + 1) = (j : Int) := by rw [wrap_next' (by omega), hj]; rfl
        have hw4 : wrap64 ((k : Int) + 1) = (j : Int) := by rw [wrap_next (by omega), hj]; rfl
        have HSH := Lib.hid hsh
        have HJ := Lib.hid hj
        clear hsh cs hf hj
        go_wp2_with (go_at_call 70; refine (closedUp_any (f j) v hfk (by omega) _).mono ?_; rintro e w' ⟨rfl, q, rfl⟩)
        go_roundw
        case rel =>
          refine ⟨j, by have := HJ.out; omega, by first | rfl | go_num, (below_drewN hb q).setCell (p := ⟨w.heap.size + 1 + 1, 1 + k, none⟩) (by simp; omega) _, ?_, ?_, ?_⟩
          · rw [heap_setCell_other _ _ _ _ (by simp; omega)]; exact HG.out
          · rw [heap_setCell_other _ _ _ _ (by simp)]; exact HR.out
          · rw [graph_stored (w := wr.drewN q) k _ (by omega) HS.out, ← HF.out, ← HSH.out, shut_step, HJ.out]
        case measure => simp [intOf]; have := HJ.out; omega
    · obtain rfl : k = m := by omega
      have HG : Hid (wr.heap[w.heap.size + 1 + 1]? = some (.cells (gcells k (fun i => if i < k then shutOf f v i else 0)) 42 (0, 0))) := by
        show _ = _
        rw [hs, ← hf']
      have HR := Lib.hid hr
      clear hs hr hg hf hf'
      go_wp2_with (first
        | (refine load_graph rfl _ rfl _ k (fun i => if i < k then shutOf f v i else 0) rfl HG.out ?_)
        | (refine store_graph rfl _ _ rfl _ k (fun i => if i < k then shutOf f v i else 0) rfl rfl 0 (fun _ => 0) HR.out ?_))
      refine bodyPost_ret (v := .agg (gcells k (fun i => if i < k then shutOf f v i else 0))) (ret_graph rfl _ _ (w.heap.size + 1) k _ rfl (heap_setRow_same HR.out)) rfl ⟨rfl, ?_⟩
      exact below_setRow hb (by omega) _

end Go.Proofs.YtnmemefkeehjjabDoor

/-
  The specification's l1Without: the graph without a node, as a list.
-/
namespace Go.Proofs.YtnmemefkeehjjabDoor
set_option linter.unusedVariables false
set_option linter.unusedSimpArgs false
open Go.RowKit
set_option maxRecDepth 100000

/-- So many nodes below k are left. -/
def leftOf (v k : Nat) : Nat := if k ≤ v then k else k - 1

set_option maxHeartbeats 1000000 in
theorem l1Without_any (w : World) (u : Value) (xs : List Int) (h : Ints w u xs) (v : Nat) (h8 : xs.length ≤ 8) (hv : v < xs.length) (hrow : ∀ i (hi : i < xs.length), xs[i] = (gfun xs i : Int) ∧ gfun xs i < 256) :
    Calls Tryd.prog 48 #[u, .int .i64 (v : Int)] w fun e w' => ∃ r, e = .returned r ∧ Below w.heap.size w w' ∧ w'.ownsRow w.heap.size 3 1 r (xs.length - 1) (vals (glist (xs.length - 1) (shutOf (gfun xs) v))) := by
  obtain ⟨i0, hi, hz0, hz1, hz2⟩ := info_parts infoInt
  obtain ⟨A, cap, rfl, hm, hc⟩ := h
  have HC := Lib.hid hc
  have HROW := Lib.hid hrow
  clear hc hrow
  unfold maxLen at hm
  go_enter Tryd.func48, Tryd.ntmps48
  go_wp2
  go_loopw [5, 6] (fun r i wr => ∃ k : Nat, k ≤ xs.length ∧ i = .int .i64 k ∧ Below w.heap.size w wr ∧ wr.ownsRow w.heap.size 3 1 r (leftOf v k) (vals (glist (leftOf v k) (shutOf (gfun xs) v))))
    (fun _ i _ => xs.length - (intOf i).toNat)
  case atStart => exact ⟨0, by omega, rfl, (Below.refl _ _).alloc (Nat.le_refl _) _, owns_empty w _ (Nat.le_refl _)⟩
  case round =>
    obtain ⟨k, hk, rfl, hb, ho⟩ := hrel
    by_cases hlt : k < xs.length
    · by_cases hkv : k = v
      · subst hkv
        have e1 : leftOf k (k + 1) = leftOf k k := by unfold leftOf; simp
        have E1 := Lib.hid e1
        have HO := Lib.hid ho
        clear e1 ho
        go_wp2
        go_roundw
        case rel => exact ⟨k + 1, by omega, by go_num, hb, by rw [E1.out]; exact HO.out⟩
        case measure => simp [intOf]; omega
      · have e1 : leftOf v (k + 1) = leftOf v k + 1 := by unfold leftOf; split <;> split <;> omega
        have e2 : shutOf (gfun xs) v (leftOf v k) = drp (gfun xs k) v := by
          unfold shutOf leftOf
          by_cases h1 : k ≤ v
          · rw [if_pos h1, if_pos (by omega)]
          · rw [if_neg h1, if_neg (by omega), show k - 1 + 1 = k by omega]
        obtain ⟨b, off, rfl, hcell0⟩ := HC.out k hlt
        obtain ⟨hxk, hlk⟩ := HROW.out k hlt
        have hcell : wr.cell? ⟨b, off + k, none⟩ = some (.int .i64 (gfun xs k : Int)) := by
          rw [← hxk]; exact (hb.cell (p := ⟨b, off + k, none⟩) (World.block_lt_of_cell? w _ hcell0)).trans hcell0
        have hlc : leftOf v k ≤ 8 := by unfold leftOf; split <;> omega
        have hne : ¬ (k : Int) = (v : Int) := by omega
        have hki : (k : Int) < (xs.length : Int) := by omega
        have E1 := Lib.hid e1
        have E2 := Lib.hid e2
        clear hcell0 hxk e1 e2
        go_wp2_with (first
          | (go_at_call 80; refine (l1Drop_any (gfun xs k) v hlk (by omega) _).mono ?_; rintro e w' ⟨rfl, rfl⟩)
          | (refine wpList_append_lies _ rfl (.tmp 17) (.tmp 24) 23 rfl w.heap.size 3 i0 (.int .i64 0) 1 8 Tryd.underlying23 hi hz0 hz1 hz2 rfl (by decide) _ _ _ rfl (ho.alloc _) ⟨wr.heap.size, 0, none⟩ 1 1 [.int .i64 (drp (gfun xs k) v : Int)] rfl rfl (cell_one_new _ _ _) (by simp [Value.oneCell']) (by decide) (by unfold maxLen; omega) (by omega) (by have := hb.size; simp; omega) _ rfl ?_; intro g cap w1 hown hgrow _ _))
        go_wp2
        go_roundw
        case rel =>
          refine ⟨k + 1, by omega, by go_num, ?_, ?_⟩
          · exact (hb.alloc hb.size _).grown hgrow (by have := hb.size; simp; omega) (fun j hj => (ho.lt j hj).1)
          · rw [E1.out, glist_succ, E2.out]; exact hown
        case measure => simp [intOf]; omega
    · obtain rfl : k = xs.length := by omega
      have e1 : leftOf v xs.length = xs.length - 1 := by unfold leftOf; rw [if_neg (by omega)]
      rw [e1] at ho
      have HO := Lib.hid ho
      clear ho e1
      go_wp2
      go_ret
      exact ⟨_, rfl, hb, HO.out⟩

end Go.Proofs.YtnmemefkeehjjabDoor

