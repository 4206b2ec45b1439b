/-
  spec.l1Way links each node and the next one, in a new slice.
-/
import Derived.Test.YthafhcocgohjaabDoorCore1
namespace Go.Proofs.YthafhcocgohjaabDoor
set_option linter.unusedVariables false
set_option linter.unusedSimpArgs false
open Go.RowKit

set_option maxHeartbeats 400000 in
theorem l1Way_any (n : Nat) (h1 : 1 ≤ n) (h8 : n ≤ 8) (w : World) :
    Calls Tryd.prog 69 #[.int .i64 (n : Int)] w fun e w' => e = .returned (.slice (some ⟨w.heap.size, 0, none⟩) n n) ∧ Below w.heap.size w w' ∧ Owns w' w.heap.size (.slice (some ⟨w.heap.size, 0, none⟩) n n) (glist n (wayTo (n - 1))) := by
  have hmk := fun W => run_make_row' (P := Tryd.prog) 23 3 (.int .i64 0) 8 Tryd.underlying23 infoInt rfl .i64 .i64 n (by omega) (by omega) W
  go_enter Tryd.func69, Tryd.ntmps69
  go_wp2
  go_loopw [4] (fun i wr => ∃ k : Nat, k + 1 ≤ n ∧ i = .int .i64 k ∧ Below w.heap.size w wr ∧
      wr.ownsRow w.heap.size 3 1 (.slice (some ⟨w.heap.size, 0, none⟩) n n) n (vals (glist n (wayTo k))))
    (fun i _ => n - (intOf i).toNat)
  case atStart =>
    refine ⟨0, by omega, rfl, (Below.refl _ _).alloc (Nat.le_refl _) _, ?_⟩
    have := World.ownsRow_lit (base := w.heap.size) (e := 3) (size := 1) w (madeCells #[Value.int .i64 0] n) n (Nat.le_refl _) (by unfold maxLen; omega) (by simp [madeCells])
    rw [toList_madeCells_one, ← glist_zero] at this
    exact this
  case round =>
    obtain ⟨k, hk, rfl, hb, ho⟩ := hrel
    by_cases hlt : k + 1 < n
    · have hf1 := ho.frozenAt k
      have hf2 := ho.frozenAt (k + 1)
      have hx1 := (ho.cellAt k (by omega)).trans (glist_cell n (wayTo k) k (by omega))
      have hx2 := (ho.cellAt (k + 1) (by omega)).trans (glist_cell n (wayTo k) (k + 1) (by omega))
      have hw := wayTo_lt k (by omega)
      have hr1 := or_pow (hw k) (show k + 1 < 9 by omega)
      have hr2 := or_pow (hw (k + 1)) (show k < 9 by omega)
      have HO := Lib.hid ho
      clear ho hw
      go_wp2
      go_region
      go_wp2
      go_region
      go_wp2
      go_roundw
      case rel =>
        have e1 := (HO.out.stored k (.int .i64 ((wayTo k k ||| 2 ^ (k + 1) : Nat) : Int))).1
        rw [glist_set] at e1
        have e2 := (e1.stored (k + 1) (.int .i64 ((wayTo k (k + 1) ||| 2 ^ k : Nat) : Int))).1
        rw [glist_set] at e2
        exact ⟨k + 1, by omega, by go_num, ((hb.setCell (p := ⟨w.heap.size, k, none⟩) (Nat.le_refl _) _).setCell (p := ⟨w.heap.size, k + 1, none⟩) (Nat.le_refl _) _).drew.drew,
          by rw [wayTo, lnk_ne _ (by omega)]; exact e2⟩
      case measure => simp [intOf]; omega
    · obtain rfl : n = k + 1 := by omega
      have HO := Lib.hid ho
      clear ho
      go_wp2
      go_ret
      refine ⟨rfl, hb, ?_⟩
      have := HO.out
      show World.ownsRow _ _ _ _ _ (glist (k + 1) (wayTo (k + 1 - 1))).length _
      rw [glist_len, Nat.add_sub_cancel]
      exact this

end Go.Proofs.YthafhcocgohjaabDoor
