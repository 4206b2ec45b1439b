/-
  WAC: Answer Contains Wish.
-/
import Derived.Test.YtahilcnmjnjcaaaDoorPrefers
import Derived.Test.YtahilcnmjnjcaaaDoorRank1
import Derived.Test.YtahilcnmjnjcaaaDoorSide1
/-
  (impl.keepers).answer.
-/
namespace Go.Proofs.YtahilcnmjnjcaaaDoor
set_option linter.unusedVariables false
set_option linter.unusedSimpArgs false
open Go.RowKit

set_option maxRecDepth 100000 in
set_option maxHeartbeats 1000000 in
theorem answer_none (w : World) (a b : Value) (i : Int) (k : Nat) :
    Calls Tryd.prog 82 #[.agg (two a b), .int .i64 (k : Int), .int .i64 i, .int .i64 (-1)] w fun e w' => e = .returned (.int .i64 i) ∧ Below w.heap.size w w' := by
  go_enter Tryd.func82, Tryd.ntmps82
  go_wp2
  go_ret
  exact ⟨rfl, (Below.refl _ _).alloc (Nat.le_refl _) _⟩

set_option maxRecDepth 100000 in
set_option maxHeartbeats 1000000 in
theorem answer_some (w : World) (a b : Value) (ys : List (List Int)) (hb : IntRows w b ys) (k i h : Nat) (hk : k < ys.length) (h1 : i < ys[k].length) (h2 : h < ys[k].length) (z : Int) (hz : (if ys[k][h] < ys[k][i] then (h : Int) else (i : Int)) = z) :
    Calls Tryd.prog 82 #[.agg (two a b), .int .i64 (k : Int), .int .i64 (i : Int), .int .i64 (h : Int)] w fun e w' => e = .returned (.int .i64 z) ∧ Below w.heap.size w w' := by
  obtain ⟨W0, hW0⟩ : ∃ W0, w.alloc (.cells (two a b) 58) = W0 := ⟨_, rfl⟩
  have hb0 : Below w.heap.size w W0 := by rw [← hW0]; exact (Below.refl _ _).alloc (Nat.le_refl _) _
  obtain ⟨x0, x1, xf, _⟩ := two_cells (show W0.heap[w.heap.size]? = some (.cells (two a b) 58 (0, 0)) by rw [← hW0]; exact World.alloc_heap_new _ _)
  have HBT := Lib.hid (better_q W0 a b ys (hb.below hb0) k i h hk h1 h2 z hz)
  have HB0 := Lib.hid hb0
  have hne : ((h : Int) == -1) = false := by simp
  clear hb hb0 hz h1 h2 hk
  go_enter Tryd.func82, Tryd.ntmps82
  go_wp2_with (go_at_call 89; refine HBT.out.mono ?_; rintro e w1 ⟨rfl, hb1⟩)
  go_ret
  exact ⟨rfl, step_below HB0.out hb1⟩

end Go.Proofs.YtahilcnmjnjcaaaDoor

/-
  slices.Index, slices.Contains on an order.
-/
namespace Go.Proofs.YtahilcnmjnjcaaaDoor
set_option linter.unusedVariables false
set_option linter.unusedSimpArgs false
open Go.RowKit

def GivesIx (w : World) (xs : List Int) (x : Int) (e : Ending) (w' : World) : Prop := ∃ r : Int, e = .returned (.int .i64 r) ∧ decide (0 ≤ r) = xs.contains x ∧ w' = w

set_option maxRecDepth 100000 in
set_option maxHeartbeats 1000000 in
theorem index_any (w : World) (v : Value) (xs : List Int) (x : Int) (h : Ints w v xs) :
    Calls Tryd.prog 88 #[v, .int .i64 x] w (GivesIx w xs x) := by
  obtain ⟨A, cap, rfl, hm, hc⟩ := h
  have HC := Lib.hid hc
  clear hc
  unfold maxLen at hm
  go_enter Tryd.func88, Tryd.ntmps88
  go_wp2
  go_loopw [8] (fun i wr => ∃ k : Nat, k ≤ xs.length ∧ i = .int .i64 k ∧ (∀ j (hj : j < xs.length), j < k → xs[j] ≠ x) ∧ wr = w) (fun i _ => xs.length - (intOf i).toNat)
  case atStart => exact ⟨0, by omega, rfl, fun j hj h => by omega, rfl⟩
  case round =>
    obtain ⟨k, hk, rfl, hno, hwr⟩ := hrel
    have hwr2 := hwr.symm
    clear hwr
    subst hwr2
    have HNO := Lib.hid hno
    clear hno
    by_cases hlt : k < xs.length
    · obtain ⟨b, off, rfl, hcell⟩ := HC.out k hlt
      obtain ⟨y, hy⟩ : ∃ y, xs[k] = y := ⟨_, rfl⟩
      rw [hy] at hcell
      have hki : (k : Int) < (xs.length : Int) := by omega
      have hk0 : (0 : Int) ≤ (k : Int) := by omega
      by_cases he : x = y
      · subst he
        have HCO : Hid (xs.contains x = true) := Lib.hid (by rw [List.contains_iff_mem, ← hy]; exact List.getElem_mem _)
        clear hy
        go_wp2
        go_ret
        exact ⟨_, rfl, by rw [HCO.out]; simp, rfl⟩
      · have hne : (x == y) = false := by simp [he]
        have HY := Lib.hid hy
        clear hy
        go_wp2
        go_roundw
        case rel =>
          refine ⟨k + 1, by omega, by go_num, fun j hj hjk => ?_, trivial⟩
          by_cases e : j = k
          · subst e; rw [HY.out]; exact fun e2 => he e2.symm
          · exact HNO.out j hj (by omega)
        case measure => simp [intOf]; omega
    · obtain rfl : k = xs.length := by omega
      have HCO : Hid (xs.contains x = false) := Lib.hid (by
        rw [← Bool.not_eq_true, List.contains_iff_mem]
        intro hmem
        obtain ⟨j, hj, he⟩ := List.getElem_of_mem hmem
        exact HNO.out j hj (by omega) he)
      go_wp2
      go_ret
      exact ⟨-1, rfl, by rw [HCO.out]; rfl, rfl⟩

set_option maxRecDepth 100000 in
set_option maxHeartbeats 400000 in
theorem contains_any (w : World) (v : Value) (xs : List Int) (x : Int) (h : Ints w v xs) :
    Calls Tryd.prog 80 #[v, .int .i64 x] w fun e w' => e = .returned (.bool (xs.contains x)) ∧ w = w' := by
  have HI := Lib.hid (index_any w v xs x h)
  clear h
  go_enter Tryd.func80, Tryd.ntmps80
  go_wp2_with (refine HI.out.mono ?_; rintro e w1 ⟨r, rfl, hr, rfl⟩)
  try (refine HI.out.mono ?_; rintro e w1 ⟨r, rfl, hr, rfl⟩; go_wp2)
  go_ret
  exact ⟨ret_bool (by first | exact hr | simp), rfl⟩

end Go.Proofs.YtahilcnmjnjcaaaDoor

/-
  (impl.askers).wish.
-/
namespace Go.Proofs.YtahilcnmjnjcaaaDoor
set_option linter.unusedVariables false
set_option linter.unusedSimpArgs false
open Go.RowKit

set_option maxRecDepth 100000 in
set_option maxHeartbeats 1000000 in
theorem wish_q (w : World) (a b : Value) (ys : List (List Int)) (ha : IntRows w a ys) (i j : Nat) (hi : i < ys.length) (hj : j < ys[i].length) (z : Int) (hz : ys[i][j] = z) :
    Calls Tryd.prog 81 #[.agg (two a b), .int .i64 (i : Int), .int .i64 (j : Int)] w fun e w' => e = .returned (.int .i64 z) ∧ Below w.heap.size w w' := by
  obtain ⟨B, capb, rfl, hmb, hcb⟩ := ha.at
  obtain ⟨b2, o2, u, rfl, hcell20, hu⟩ := hcb i hi
  obtain ⟨A3, cap3, rfl, hm3, hc3⟩ := hu
  obtain ⟨b3, o3, rfl, hcell30⟩ := hc3 j hj
  rw [hz] at hcell30
  obtain ⟨W0, hW0⟩ : ∃ W0, w.alloc (.cells (two (.slice (some ⟨b2, o2, none⟩) ys.length capb) b) 57) = W0 := ⟨_, rfl⟩
  have hb0 : Below w.heap.size w W0 := by rw [← hW0]; exact (Below.refl _ _).alloc (Nat.le_refl _) _
  obtain ⟨x0, x1, xf, _⟩ := two_cells (show W0.heap[w.heap.size]? = some (.cells (two (.slice (some ⟨b2, o2, none⟩) ys.length capb) b) 57 (0, 0)) by rw [← hW0]; exact World.alloc_heap_new _ _)
  have hcell2 := (hb0.cell (p := ⟨b2, o2 + i, none⟩) (World.block_lt_of_cell? w _ hcell20)).trans hcell20
  have hcell3 := (hb0.cell (p := ⟨b3, o3 + j, none⟩) (World.block_lt_of_cell? w _ hcell30)).trans hcell30
  have hii : (i : Int) < (ys.length : Int) := by omega
  have hi0 : (0 : Int) ≤ (i : Int) := by omega
  have hjj : (j : Int) < (ys[i].length : Int) := by omega
  have hj0 : (0 : Int) ≤ (j : Int) := by omega
  have HB0 := Lib.hid hb0
  unfold maxLen at hmb hm3
  clear hcb hc3 hcell20 hcell30 hb0 hz ha
  go_enter Tryd.func81, Tryd.ntmps81
  go_wp2
  go_ret
  exact ⟨rfl, HB0.out⟩

end Go.Proofs.YtahilcnmjnjcaaaDoor

