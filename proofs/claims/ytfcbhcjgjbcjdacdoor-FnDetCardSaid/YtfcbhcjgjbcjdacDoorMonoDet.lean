/-
  Tables turned, with two rows exchanged: what becomes of determinants and permanents.
-/
import Derived.Test.YtfcbhcjgjbcjdacDoorMonoB
import Derived.Test.YtfcbhcjgjbcjdacDoorImplTDet
import Derived.Test.YtfcbhcjgjbcjdacDoorImplTPerm
namespace Go.Proofs.YtfcbhcjgjbcjdacDoor
set_option linter.unusedVariables false
set_option linter.unusedSimpArgs false
open Go.RowKit

/-- Turned. -/
def tuF (xss : List (List Int)) (i j : Nat) : Int := flat xss (6 * j + i)
theorem det_turned {xss : List (List Int)} (h : tIn xss = true) : tIn (mkRows xss.length (tuF xss)) = true ∧ detOf (mkRows xss.length (tuF xss)) = detOf xss ∧ permOf (mkRows xss.length (tuF xss)) = permOf xss := by
  obtain ⟨h1, h6, _⟩ := tIn_facts h
  have ht2 : tIn (mkRows xss.length (tuF xss)) = true := mkRows_tIn h1 h6 fun i j _ _ => flat_small h _
  refine ⟨ht2, ?_, ?_⟩
  · unfold detOf
    rw [if_pos h, if_pos ht2, mkRows_len]
    exact expand_turned (by omega) (.inr rfl) fun i j hi hj => mkRows_flat _ _ h6 hi hj
  · unfold permOf
    rw [if_pos h, if_pos ht2, mkRows_len]
    exact expand_turned (by omega) (.inl rfl) fun i j hi hj => mkRows_flat _ _ h6 hi hj
/-- The first two rows exchanged. -/
def swR (xss : List (List Int)) : List (List Int) := [xss.getD 1 [], xss.getD 0 []] ++ xss.drop 2
theorem swR_len {xss : List (List Int)} (h2 : 2 ≤ xss.length) : (swR xss).length = xss.length := by unfold swR; simp; omega
theorem swR_at {xss : List (List Int)} (h2 : 2 ≤ xss.length) (i : Nat) : (swR xss).getD i [] = xss.getD (sw01 i) [] := by
  unfold swR
  match i with
  | 0 => rfl
  | 1 => rfl
  | i + 2 =>
    have : sw01 (i + 2) = i + 2 := by unfold sw01; rw [if_neg (by omega)]
    rw [this]
    simp [List.getD, Nat.add_comm]
theorem rows_swapped {xss : List (List Int)} (h : tIn xss = true) (h2 : 2 ≤ xss.length) : tIn (swR xss) = true ∧ detOf (swR xss) = -detOf xss ∧ permOf (swR xss) = permOf xss := by
  obtain ⟨h1, h6, _⟩ := tIn_facts h
  have hl := swR_len h2
  have hfl : ∀ i j, i < xss.length → j < xss.length → flat (swR xss) (6 * i + j) = flat xss (6 * sw01 i + j) := fun i j hi hj => by
    unfold flat
    rw [show (6 * i + j) / 6 = i by omega, show (6 * i + j) % 6 = j by omega, show (6 * sw01 i + j) / 6 = sw01 i by omega, show (6 * sw01 i + j) % 6 = j by omega, swR_at h2]
  have ht2 : tIn (swR xss) = true := by
    rw [tIn_yes (fun k hk => ?_)]
    · rw [hl, decide_eq_true_iff]; exact ⟨h1, h6⟩
    · have hk' : k < xss.length := by rw [hl] at hk; exact hk
      have hs := sw01_lt h2 hk'
      have e : (swR xss)[k] = xss[sw01 k] := by
        have := swR_at h2 k
        rw [List.getD_eq_getElem?_getD, List.getElem?_eq_getElem hk, List.getD_eq_getElem?_getD, List.getElem?_eq_getElem hs] at this
        simpa using this
      rw [e, hl]
      unfold tIn at h
      rw [Bool.and_eq_true, List.all_eq_true] at h
      exact h.1 _ (List.getElem_mem hs)
  have hx := expand_rows (F := flat (swR xss)) (G := flat xss) (n := xss.length) (by omega) h2 hfl
  refine ⟨ht2, ?_, ?_⟩
  · unfold detOf
    rw [if_pos h, if_pos ht2, hl]; exact hx.2
  · unfold permOf
    rw [if_pos h, if_pos ht2, hl]; exact hx.1
theorem detOf_bd (xss : List (List Int)) : -600000000000 ≤ detOf xss ∧ detOf xss ≤ 600000000000 := by
  unfold detOf
  split
  · rename_i ht
    obtain ⟨h1, h6, _⟩ := tIn_facts ht
    have hl := full_len ⟨xss.length, by omega⟩
    have hlt := full_lt ⟨xss.length, by omega⟩
    simp only at hl hlt
    have a := expand_bound (flat_small ht) (.inr rfl : (-1 : Int) = 1 ∨ (-1 : Int) = -1) xss.length 0 (2 ^ xss.length - 1) (by omega) hl
    have hB := expB_le ⟨xss.length, by omega⟩
    simp only at hB
    omega
  · omega
theorem permOf_bd (xss : List (List Int)) : -600000000000 ≤ permOf xss ∧ permOf xss ≤ 600000000000 := by
  unfold permOf
  split
  · rename_i ht
    obtain ⟨h1, h6, _⟩ := tIn_facts ht
    have hl := full_len ⟨xss.length, by omega⟩
    have hlt := full_lt ⟨xss.length, by omega⟩
    simp only at hl hlt
    have a := expand_bound (flat_small ht) (.inl rfl : (1 : Int) = 1 ∨ (1 : Int) = -1) xss.length 0 (2 ^ xss.length - 1) (by omega) hl
    have hB := expB_le ⟨xss.length, by omega⟩
    simp only at hB
    omega
  · omega

end Go.Proofs.YtfcbhcjgjbcjdacDoor
