/-
  spec.l1Size, laws.size: how many nodes a set has.
-/
import Derived.Test.YtcklinoiaiilgabDoorTz
namespace Go.Proofs.YtcklinoiaiilgabDoor
set_option linter.unusedVariables false
set_option linter.unusedSimpArgs false
open Go.RowKit
set_option maxRecDepth 100000

theorem bit_val (s k : Nat) (hs : s < 256) : bits .and .i64 ((s : Int) / 2 ^ k) 1 = ((s / 2 ^ k % 2 : Nat) : Int) := by
  have e : ((s : Int) / 2 ^ k) = ((s / 2 ^ k : Nat) : Int) := by push_cast; rfl
  have hlt : s / 2 ^ k < 256 := Nat.lt_of_le_of_lt (Nat.div_le_self _ _) hs
  rw [e, show (1 : Int) = ((1 : Nat) : Int) from rfl, and64 _ _ (by omega) (by omega), Nat.and_one_is_mod]
/-- How many of the first k nodes. -/
def sizeTo (s : Nat) : Nat → Nat
  | 0 => 0
  | k + 1 => sizeTo s k + s / 2 ^ k % 2
theorem sizeTo_le (s : Nat) : ∀ k, sizeTo s k ≤ k
  | 0 => Nat.le_refl _
  | k + 1 => by
    have := sizeTo_le s k
    have h2 := Nat.mod_lt (s / 2 ^ k) (show 0 < 2 by decide)
    rw [sizeTo.eq_2]; omega
theorem size8 : ∀ s : Fin 256, sizeTo s.val 8 = (bitsOf s.val).length := by decide +kernel
theorem size20 : ∀ s : Fin 256, sizeTo s.val 20 = (bitsOf s.val).length := by decide +kernel

set_option maxHeartbeats 1000000 in
theorem l1Size_any (s : Nat) (hs : s < 256) (w : World) :
    Calls Tryd.prog 138 #[.int .i64 (s : Int)] w fun e w' => e = .returned (.int .i64 ((bitsOf s).length : Nat)) ∧ w = w' := by
  have h8 := size8 ⟨s, hs⟩
  simp only at h8
  have H8 := Lib.hid h8
  clear h8
  go_enter Tryd.func138, Tryd.ntmps138
  go_wp2
  go_loop [3, 4] (fun n i => ∃ k : Nat, k ≤ 8 ∧ i = .int .i64 k ∧ n = .int .i64 (sizeTo s k : Nat)) (fun _ i => 8 - (intOf i).toNat)
  case atStart => exact ⟨0, by omega, rfl, rfl⟩
  case round =>
    obtain ⟨k, hk, rfl, rfl⟩ := hrel
    by_cases hlt : k < 8
    · have hki : (k : Int) < 8 := by omega
      have hk64 : (k : Int) < 64 := by omega
      have hle := sizeTo_le s k
      have hb := bit_val s k hs
      have hnx : sizeTo s (k + 1) = sizeTo s k + s / 2 ^ k % 2 := rfl
      have hm2 := Nat.mod_lt (s / 2 ^ k) (show 0 < 2 by decide)
      obtain ⟨b, hbe⟩ : ∃ b, s / 2 ^ k % 2 = b := ⟨_, rfl⟩
      obtain ⟨z, hz⟩ : ∃ z, sizeTo s k = z := ⟨_, rfl⟩
      rw [hbe] at hb hnx hm2
      rw [hz] at hnx hle ⊢
      have hz8 : (z : Int) ≤ 8 := by omega
      have hb2 : (b : Int) ≤ 1 := by omega
      have HN := Lib.hid hnx
      clear hnx hbe hz hle hm2
      go_wp2
      go_round
      all_goals first | exact ⟨k + 1, by omega, by go_num, by rw [HN.out]; go_num⟩ | (simp [intOf]; omega)
    · obtain rfl : k = 8 := by omega
      rw [H8.out]
      go_wp2
      go_ret
      exact ⟨rfl, rfl⟩

set_option maxHeartbeats 1000000 in
theorem lawSize_any (s : Nat) (hs : s < 256) (w : World) :
    Calls Tryd.prog 47 #[.int .i64 (s : Int)] w fun e w' => e = .returned (.int .i64 ((bitsOf s).length : Nat)) ∧ w = w' := by
  have h8 := size20 ⟨s, hs⟩
  simp only at h8
  have H8 := Lib.hid h8
  clear h8
  go_enter Tryd.func47, Tryd.ntmps47
  go_wp2
  go_loop [3, 4] (fun n i => ∃ k : Nat, k ≤ 20 ∧ i = .int .i64 k ∧ n = .int .i64 (sizeTo s k : Nat)) (fun _ i => 20 - (intOf i).toNat)
  case atStart => exact ⟨0, by omega, rfl, rfl⟩
  case round =>
    obtain ⟨k, hk, rfl, rfl⟩ := hrel
    by_cases hlt : k < 20
    · have hki : (k : Int) < 20 := by omega
      have hk64 : (k : Int) < 64 := by omega
      have hle := sizeTo_le s k
      have hb := bit_val s k hs
      have hnx : sizeTo s (k + 1) = sizeTo s k + s / 2 ^ k % 2 := rfl
      have hm2 := Nat.mod_lt (s / 2 ^ k) (show 0 < 2 by decide)
      obtain ⟨b, hbe⟩ : ∃ b, s / 2 ^ k % 2 = b := ⟨_, rfl⟩
      obtain ⟨z, hz⟩ : ∃ z, sizeTo s k = z := ⟨_, rfl⟩
      rw [hbe] at hb hnx hm2
      rw [hz] at hnx hle ⊢
      have hz8 : (z : Int) ≤ 20 := by omega
      have hb2 : (b : Int) ≤ 1 := by omega
      have HN := Lib.hid hnx
      clear hnx hbe hz hle hm2
      go_wp2
      go_round
      all_goals first | exact ⟨k + 1, by omega, by go_num, by rw [HN.out]; go_num⟩ | (simp [intOf]; omega)
    · obtain rfl : k = 20 := by omega
      rw [H8.out]
      go_wp2
      go_ret
      exact ⟨rfl, rfl⟩

end Go.Proofs.YtcklinoiaiilgabDoor
