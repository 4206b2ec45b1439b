/-
  laws.back: the partners of the other side.
-/
import Derived.Test.YtahilcnmjnjcaaaDoorRank1
namespace Go.Proofs.YtahilcnmjnjcaaaDoor
set_option linter.unusedVariables false
set_option linter.unusedSimpArgs false
open Go.RowKit

set_option maxRecDepth 100000 in
set_option maxHeartbeats 1000000 in
theorem lawBack_any (w : World) (v : Value) (xs : List Int) (h : Ints w v xs) (h5 : xs.length ≤ 5) (hin : ∀ x ∈ xs, 0 ≤ x ∧ x ≤ (xs.length : Int) - 1) :
    Calls Tryd.prog 38 #[v] w fun e w' => e = .returned (.slice (some ⟨w.heap.size, 0, none⟩) xs.length xs.length) ∧ Below w.heap.size w w' ∧ Owns w' w.heap.size (.slice (some ⟨w.heap.size, 0, none⟩) xs.length xs.length) (backOf xs) := by
  obtain ⟨A, cap, rfl, hm, hc⟩ := h
  have hmk := fun W => run_make_row' (P := Tryd.prog) 39 3 (.int .i64 0) 8 Tryd.underlying39 infoOrder rfl .i64 .i64 xs.length (by omega) (by omega) W
  have HC := Lib.hid hc
  have HIN := Lib.hid hin
  clear hc hin
  unfold maxLen at hm
  go_enter Tryd.func38, Tryd.ntmps38
  go_wp2
  go_loopw [4] (fun i wr => ∃ k : Nat, k ≤ xs.length ∧ i = .int .i64 k ∧ Below w.heap.size w wr ∧
      wr.ownsRow w.heap.size 3 1 (.slice (some ⟨w.heap.size, 0, none⟩) xs.length xs.length) xs.length (vals (backTo xs k)))
    (fun i _ => xs.length - (intOf i).toNat)
  case atStart =>
    refine ⟨0, Nat.zero_le _, rfl, (Below.refl _ _).alloc (Nat.le_refl _) _, ?_⟩
    have := World.ownsRow_lit (base := w.heap.size) (e := 3) (size := 1) w (madeCells #[Value.int .i64 0] xs.length) xs.length (Nat.le_refl _) hm (by simp [madeCells])
    rw [toList_madeCells_one] at this
    simpa [backTo, vals] using this
  case round =>
    clear hmk
    obtain ⟨k, hk, rfl, hb, ho⟩ := hrel
    by_cases hlt : k < xs.length
    · obtain ⟨b, off, rfl, hcell⟩ := HC.out k hlt
      obtain ⟨x, hx⟩ : ∃ x, xs[k] = x := ⟨_, rfl⟩
      have hxr := HIN.out x (hx ▸ List.getElem_mem hlt)
      rw [hx] at hcell
      obtain ⟨m, rfl⟩ : ∃ m : Nat, x = (m : Int) := ⟨x.toNat, by omega⟩
      have hmn : m < xs.length := by omega
      have hcell' := (hb.cell (p := ⟨b, off + k, none⟩) (World.block_lt_of_cell? w _ hcell)).trans hcell
      have hf := ho.frozenAt m
      have hx1 := ho.cellAt m (by omega)
      have hst := ho.stored m (.int .i64 (k : Int))
      have hset : (vals (backTo xs k)).set m (.int .i64 (k : Int)) = vals (backTo xs (k + 1)) := by
        show _ = vals ((backTo xs k).set (xs.getD k 0).toNat (k : Int))
        rw [List.getD_eq_getElem?_getD, List.getElem?_eq_getElem hlt, Option.getD_some, hx, Int.toNat_natCast]
        simp [vals, List.map_set]
      rw [hset] at hst
      obtain ⟨v0, hx0⟩ : ∃ v0, wr.cell? ⟨w.heap.size, m, none⟩ = some v0 := by
        rw [hx1, List.getElem?_eq_getElem (by rw [ho.1]; omega)]; exact ⟨_, rfl⟩
      have hmi : (m : Int) < (xs.length : Int) := by omega
      have hki : (k : Int) < (xs.length : Int) := by omega
      have hk0 : (0 : Int) ≤ (k : Int) := by omega
      have HO := Lib.hid hst
      clear hst hx1 ho hcell hset hx hxr
      go_wp2
      go_roundw
      case rel => exact ⟨k + 1, by omega, by go_num, hb.setCell (p := ⟨w.heap.size, m, none⟩) (Nat.le_refl _) _, HO.out.1⟩
      case measure => simp [intOf]; omega
    · obtain rfl : k = xs.length := by omega
      have HO := Lib.hid ho
      clear ho
      go_wp2
      go_ret
      exact ⟨rfl, hb, by have := HO.out; unfold Owns; rw [backOf_len]; exact this⟩

end Go.Proofs.YtahilcnmjnjcaaaDoor
