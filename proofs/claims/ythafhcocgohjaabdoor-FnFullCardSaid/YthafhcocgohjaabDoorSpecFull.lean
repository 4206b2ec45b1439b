/-
  spec.GraphFull: what it hands back.
-/
import Derived.Test.YthafhcocgohjaabDoorCore1
import Derived.Deep.RegionLaw
import Derived.Deep.AppendLies
namespace Go.Proofs.YthafhcocgohjaabDoor
set_option linter.unusedVariables false
set_option linter.unusedSimpArgs false
open Go.RowKit

def fullOf (n : Nat) : Nat → Nat := fun i => (2 ^ n - 1) &&& (255 - 2 ^ i)

set_option maxHeartbeats 400000 in
theorem specFull_yes (n : Nat) (h1 : 1 ≤ n) (h8 : n ≤ 8) (w : World) :
    Calls Tryd.prog 22 #[.int .i64 (n : Int)] w (GivesInts w true (glist n (fullOf n))) := by
  obtain ⟨i0, hi, hz0, hz1, hz2⟩ := info_parts infoInt
  go_enter Tryd.func22, Tryd.ntmps22
  go_wp2_with (go_at_call 67; refine (l6In_yes n 1 8 (by omega) (by omega) _).mono ?_; rintro e w1 ⟨rfl, rfl⟩)
  go_loopw [4, 5] (fun v i wr => ∃ k : Nat, k ≤ n ∧ i = .int .i64 k ∧ Below w.heap.size w wr ∧ wr.ownsRow w.heap.size 3 1 v k (vals (glist k (fullOf n))))
    (fun _ i _ => n - (intOf i).toNat)
  case atStart => exact ⟨0, by omega, rfl, (Below.refl _ _).alloc (Nat.le_refl _) _, owns_empty w _ (Nat.le_refl _)⟩
  case round =>
    obtain ⟨k, hk, rfl, hb, ho⟩ := hrel
    by_cases hlt : k < n
    · have hv : bits .andNot .i64 (IntKind.i64.wrap (IntKind.i64.wrap (2 ^ n) - 1)) (IntKind.i64.wrap (2 ^ k)) = (fullOf n k : Int) := full_val n k (by omega) (by omega)
      go_wp2
      go_region_law (refine step_append_lies _ (by rfl) (.tmp 16) (.tmp 23) 23 (by rfl) w.heap.size 3 i0 (.int .i64 0) 1 8 Tryd.underlying23 hi hz0 hz1 hz2 rfl (by decide) _ _ _ (by rfl) (by exact ho.alloc _) ⟨wr.heap.size, 0, none⟩ 1 1 [.int .i64 (fullOf n k : Int)] (by rfl) (by rfl) (by exact cell_one_new _ _ _) (by simp [Value.oneCell']) (by decide) (by unfold maxLen; omega) (by omega) (by have := hb.size; simp; omega) _ (by rfl) ?_; intro g cap w1 hown hgrow _ _)
      go_wp2
      go_roundw
      case rel =>
        refine ⟨k + 1, by omega, by go_num, ?_, ?_⟩
        · exact ((hb.alloc hb.size _).drew).grown hgrow (by have := hb.size; simp; omega) (fun j hj => (ho.lt j hj).1)
        · rw [glist_succ]; exact hown
      case measure => simp [intOf]; omega
    · obtain rfl : k = n := by omega
      have HO := Lib.hid ho
      clear ho
      go_wp2
      go_ret2
      refine ⟨_, rfl, hb, ?_⟩
      show World.ownsRow _ _ _ _ _ (glist k _).length _
      rw [glist_len]
      exact HO.out

set_option maxHeartbeats 400000 in
theorem specFull_no (n : Int) (h : n < 1 ∨ 8 < n) (w : World) :
    Calls Tryd.prog 22 #[.int .i64 n] w (GivesInts w false []) := by
  have H := Lib.hid h
  clear h
  go_enter Tryd.func22, Tryd.ntmps22
  go_wp2_with (go_at_call 67; refine (l6In_no n 1 8 H.out _).mono ?_; rintro e w1 ⟨rfl, rfl⟩)
  go_ret2
  exact ⟨_, rfl, (Below.refl _ _).alloc (Nat.le_refl _) _, owns_empty w _ (Nat.le_refl _)⟩

end Go.Proofs.YthafhcocgohjaabDoor
