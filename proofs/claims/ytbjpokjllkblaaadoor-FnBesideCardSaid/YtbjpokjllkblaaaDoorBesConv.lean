/-
  MATCHING NUMBERS OF TWO GRAPHS BESIDE EACH OTHER ARE PRODUCTS; plain functions, no walk.
-/
import Derived.Test.YtbjpokjllkblaaaDoorBesNums
namespace Go.Proofs.YtbjpokjllkblaaaDoor
set_option linter.unusedVariables false
set_option linter.unusedSimpArgs false
open Go.RowKit
set_option maxRecDepth 100000

theorem p2_256 {n : Nat} (h : n ≤ 8) : 2 ^ n ≤ 256 := by have := Nat.pow_le_pow_right (n := 2) (by decide) h; omega
theorem cv_succ (p q : Nat → Nat) (h0 : p 0 = 1) (j : Nat) : cv p q (j + 1) = q (j + 1) + sumN (fun i => p (i + 1) * q (j - i)) (j + 1) := by
  unfold cv
  rw [sumN_front, h0, Nat.one_mul, Nat.sub_zero]
  congr 1
  refine sumN_congr _ fun i hi => ?_
  rw [show j + 1 - (i + 1) = j - i by omega]

theorem bt_256 {m s t : Nat} (hu : bt m s t < 256) : s < 256 := by unfold bt at hu; omega
theorem bt_le {m s s' t : Nat} (h : s' ≤ s) : bt m s' t ≤ bt m s t := by unfold bt; omega

theorem bes_conv {m : Nat} {f g : Nat → Nat} (hm : m ≤ 8) (hf : ∀ i, f i < 2 ^ m) {t : Nat} : ∀ s, s < 2 ^ m → bt m s t < 256 → ∀ k, nums (besF m f g) (bt m s t) k = cv (nums f s) (nums g t) k := by
  intro s
  induction s using Nat.strongRecOn with
  | _ s ih =>
    intro hs hu k
    have hs2 := bt_256 hu
    by_cases h0 : s = 0
    · subst h0
      rw [cv_unit _ _ (nums_zero f 0) (fun i => by rw [nums_zero]; simp)]
      have := sh_nums (f := f) (g := g) hm t (by unfold bt at hu; omega) k
      unfold bt
      exact this
    · have hb := low_bit hs2 h0
      have hlm : (low s).val < m := by
        rcases Nat.lt_or_ge (low s).val m with h | h
        · exact h
        · rw [Nat.testBit_lt_two_pow (Nat.lt_of_lt_of_le hs (Nat.pow_le_pow_right (by decide) h))] at hb; cases hb
      have hub : (bt m s t).testBit (low s).val = true := by rw [bt_bit hs, if_pos hlm]; exact hb
      have hlow : low (bt m s t) = low s := Fin.ext (low_eq hu (low s).isLt hub (fun i hi => by rw [bt_bit hs, if_pos (by omega)]; exact low_none hs2 hi))
      have hwo : ∀ x w, x ≤ s → w < m → w < 8 → wo (bt m x t) w = bt m (wo x w) t := fun x w hx hw hw8 => by
        have hx256 : bt m x t < 256 := Nat.lt_of_le_of_lt (bt_le hx) hu
        have hxm : x < 2 ^ m := by omega
        have hwx := wo_le x w
        refine eq_bits (wo_256 hx256) (Nat.lt_of_le_of_lt (bt_le hwx) hx256) (fun i => ?_)
        have b1 := wo_bit (bt m x t) ⟨w, hw8⟩ i
        have b2 := wo_bit x ⟨w, hw8⟩ i
        simp only at b1 b2
        rw [b1, bt_bit hxm, bt_bit (show wo x w < 2 ^ m by omega), b2]
        by_cases c : i.val < m
        · simp [c]
        · have : i ≠ ⟨w, hw8⟩ := fun e => c (by rw [e]; exact hw)
          simp [c, this]
      have hr := rst_lt hs2 h0
      have hrst : rst (bt m s t) = bt m (rst s) t := by unfold rst; rw [hlow]; exact hwo s _ (Nat.le_refl _) hlm (low s).isLt
      have htie : tieOf (besF m f g) (bt m s t) = tieOf f s := by
        have e : besF m f g (low s).val = f (low s).val := by unfold besF; rw [if_pos hlm]
        unfold tieOf
        rw [hlow, hrst, e]
        have hfl := hf (low s).val
        have h1 : f (low s).val &&& bt m (rst s) t < 256 := Nat.lt_of_le_of_lt Nat.and_le_left (Nat.lt_of_lt_of_le hfl (p2_256 hm))
        have h2 : f (low s).val &&& rst s < 256 := Nat.lt_of_le_of_lt Nat.and_le_left (Nat.lt_of_lt_of_le hfl (p2_256 hm))
        refine eq_bits h1 h2 (fun i => ?_)
        rw [Nat.testBit_and, Nat.testBit_and, bt_bit (by omega)]
        by_cases c : i.val < m
        · simp [c]
        · rw [Nat.testBit_lt_two_pow (Nat.lt_of_lt_of_le hfl (Nat.pow_le_pow_right (by decide) (show m ≤ i.val by omega)))]; simp
      have ht2 : t < 256 := by
        have hp := Nat.two_pow_pos m
        have := Nat.le_mul_of_pos_left t hp
        unfold bt at hu
        omega
      cases k with
      | zero =>
        rw [nums_none' hu]
        show 1 = 0 + nums f s 0 * nums g t (0 - 0)
        rw [nums_none' hs2, nums_none' ht2]
      | succ j =>
        rw [nums_sum hu (by intro e; rw [e] at hub; simp at hub), hrst, htie, ih (rst s) hr (by omega) (Nat.lt_of_le_of_lt (bt_le (Nat.le_of_lt hr)) hu), cv_succ _ _ (nums_none' hs2), cv_succ _ _ (nums_none' (show rst s < 256 by omega)), Nat.add_assoc]
        congr 1
        have e1 : sumN (fun w => if (tieOf f s).testBit w = true then nums (besF m f g) (wo (bt m (rst s) t) w) j else 0) 8 = sumN (fun w => sumN (fun i => (if (tieOf f s).testBit w = true then nums f (wo (rst s) w) i else 0) * nums g t (j - i)) (j + 1)) 8 := by
          refine sumN_congr 8 fun w hw => ?_
          cases hbw : (tieOf f s).testBit w with
          | false =>
            rw [sumN_none (fun i _ => by simp)]; simp
          | true =>
            have hrw : (rst s).testBit w = true := by unfold tieOf at hbw; rw [Nat.testBit_and, Bool.and_eq_true] at hbw; exact hbw.2
            have hwm : w < m := by
              rcases Nat.lt_or_ge w m with h | h
              · exact h
              · rw [Nat.testBit_lt_two_pow (Nat.lt_of_lt_of_le (show rst s < 2 ^ m by omega) (Nat.pow_le_pow_right (by decide) h))] at hrw; cases hrw
            have hwl := wo_le (rst s) w
            rw [if_pos rfl, hwo (rst s) w (Nat.le_of_lt hr) hwm hw, ih (wo (rst s) w) (by omega) (by omega) (Nat.lt_of_le_of_lt (bt_le (show wo (rst s) w ≤ s by omega)) hu)]
            simp only [if_true]
            rfl
        rw [e1, sumN_swap, ← sumN_add]
        refine sumN_congr _ fun i _ => ?_
        rw [nums_sum hs2 h0 i, Nat.add_mul, sumN_mulr]

end Go.Proofs.YtbjpokjllkblaaaDoor
