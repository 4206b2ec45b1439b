/-
  NUMBERS OF TWO GRAPHS BESIDE EACH OTHER, of the list that the program hands back; plain functions, no walk.
-/
import Derived.Test.YtbjpokjllkblaaaDoorBesConv
namespace Go.Proofs.YtbjpokjllkblaaaDoor
set_option linter.unusedVariables false
set_option linter.unusedSimpArgs false
open Go.RowKit
set_option maxRecDepth 100000

theorem bt_all (m n : Nat) : bt m (2 ^ m - 1) (2 ^ n - 1) = 2 ^ (m + n) - 1 := by
  unfold bt
  have h1 := Nat.two_pow_pos m
  have h2 := Nat.two_pow_pos n
  rw [Nat.pow_add, Nat.mul_sub, Nat.mul_one]
  have : 2 ^ m ≤ 2 ^ m * 2 ^ n := Nat.le_mul_of_pos_right _ h2
  omega
theorem bes_gfun {xs ys : List Int} (hok : besOk xs ys = true) (k : Nat) :
    nums (gfun (besOf xs ys)) (2 ^ (xs.length + ys.length) - 1) k = cv (nums (gfun xs) (2 ^ xs.length - 1)) (nums (gfun ys) (2 ^ ys.length - 1)) k := by
  have hok2 := hok
  unfold besOk at hok2
  simp only [Bool.and_eq_true, decide_eq_true_eq] at hok2
  obtain ⟨⟨hg, hh⟩, h8⟩ := hok2
  obtain ⟨_, x8, xok⟩ := gIn_parts hg
  have hs : 2 ^ (xs.length + ys.length) - 1 < 256 := all256 h8
  have hL : besOf xs ys = glist (xs.length + ys.length) (besF xs.length (gfun xs) (gfun ys)) := by unfold besOf; rw [if_pos hok]
  rw [hL, nums_same (G := besF xs.length (gfun xs) (gfun ys)) _ hs (fun i hi => by
    have hin : i.val < xs.length + ys.length := by
      rcases Nat.lt_or_ge i.val (xs.length + ys.length) with h | h
      · exact h
      · have hp := Nat.two_pow_pos (xs.length + ys.length)
        rw [Nat.testBit_lt_two_pow (Nat.lt_of_lt_of_le (show 2 ^ (xs.length + ys.length) - 1 < 2 ^ (xs.length + ys.length) by omega) (Nat.pow_le_pow_right (by decide) h))] at hi; cases hi
    exact gfun_glist _ hin), ← bt_all]
  exact bes_conv x8 (gfun_pow xok) _ (by have := Nat.two_pow_pos xs.length; omega) (by rw [bt_all]; exact hs) k
theorem bes_in {xs ys : List Int} (hok : besOk xs ys = true) : gIn (besOf xs ys) = true ∧ (∀ x ∈ besOf xs ys, I64 x) ∧ (besOf xs ys).length = xs.length + ys.length := by
  have hok2 := hok
  unfold besOk at hok2
  simp only [Bool.and_eq_true, decide_eq_true_eq] at hok2
  obtain ⟨⟨hg, hh⟩, h8⟩ := hok2
  obtain ⟨x1, x8, xok⟩ := gIn_parts hg
  obtain ⟨_, y8, yok⟩ := gIn_parts hh
  have hL : besOf xs ys = glist (xs.length + ys.length) (besF xs.length (gfun xs) (gfun ys)) := by unfold besOf; rw [if_pos hok]
  have hb : ∀ i j, (besF xs.length (gfun xs) (gfun ys) i).testBit j = if i < xs.length then (gfun xs i).testBit j else (decide (xs.length ≤ j) && (gfun ys (i - xs.length)).testBit (j - xs.length)) := fun i j => by
    unfold besF
    split
    · rfl
    · rw [Nat.mul_comm, bit_sh]
  have hlt : ∀ i, i < xs.length + ys.length → besF xs.length (gfun xs) (gfun ys) i < 2 ^ (xs.length + ys.length) := fun i hi => by
    unfold besF
    split
    · exact Nat.lt_of_lt_of_le (gfun_pow xok i) (Nat.pow_le_pow_right (by decide) (by omega))
    · rw [Nat.add_comm xs.length, Nat.pow_add]
      exact Nat.mul_lt_mul_of_pos_right (gfun_pow yok _) (Nat.two_pow_pos _)
  refine ⟨?_, ?_, by rw [hL, glist_len]⟩
  · rw [hL]
    refine gIn_glist (by omega) h8 hlt (fun i hi => ?_) (fun i j hi hj hij => ?_)
    · rw [hb]
      split
      · exact gIn_irr hg ⟨i, by omega⟩
      · have := gIn_irr hh ⟨i - xs.length, by omega⟩
        simp only at this
        rw [this]; simp
    · rw [hb] at hij ⊢
      by_cases ci : i < xs.length
      · rw [if_pos ci] at hij
        have hj2 := gIn_both hg hij
        have cj : j < xs.length := by
          rcases Nat.lt_or_ge j xs.length with h | h
          · exact h
          · rw [Nat.testBit_lt_two_pow (Nat.lt_of_lt_of_le (gfun_pow xok i) (Nat.pow_le_pow_right (by decide) h))] at hij; cases hij
        rw [if_pos cj]; exact hj2
      · rw [if_neg ci, Bool.and_eq_true, decide_eq_true_eq] at hij
        rw [if_neg (by omega), gIn_both hh hij.2]
        simp; omega
  · rw [hL]
    exact i64_glist fun i hi => Nat.lt_of_lt_of_le (hlt i hi) (p2_256 h8)

end Go.Proofs.YtbjpokjllkblaaaDoor
