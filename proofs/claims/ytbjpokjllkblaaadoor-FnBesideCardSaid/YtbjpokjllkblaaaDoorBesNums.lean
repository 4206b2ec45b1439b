/-
  MATCHING NUMBERS OF TWO GRAPHS BESIDE EACH OTHER: products; plain functions, no walk.
-/
import Derived.Test.YtbjpokjllkblaaaDoorBesMath
import Derived.Test.YtbjpokjllkblaaaDoorDerMath
namespace Go.Proofs.YtbjpokjllkblaaaDoor
set_option linter.unusedVariables false
set_option linter.unusedSimpArgs false
open Go.RowKit
set_option maxRecDepth 100000

/-- A set of nodes of the first graph, and one of the second. -/
def bt (m s t : Nat) : Nat := 2 ^ m * t + s
theorem bt_bit {m s : Nat} (hs : s < 2 ^ m) (t j : Nat) : (bt m s t).testBit j = if j < m then s.testBit j else t.testBit (j - m) := by
  unfold bt; exact Nat.testBit_two_pow_mul_add t hs j
theorem low_eq {u v : Nat} (hu : u < 256) (hv : v < 8) (h : u.testBit v = true) (hl : ∀ i, i < v → u.testBit i = false) : (low u).val = v := by
  have h0 := nz_bit (s := u) (v := ⟨v, hv⟩) h
  have hb := low_bit hu h0
  rcases Nat.lt_trichotomy (low u).val v with c | c | c
  · rw [hl _ c] at hb; cases hb
  · exact c
  · have := low_least_all ⟨u, hu⟩ ⟨v, hv⟩ c
    simp only at this
    rw [this] at h; cases h
theorem low_none {s i : Nat} (hs : s < 256) (hi : i < (low s).val) : s.testBit i = false := low_least_all ⟨s, hs⟩ ⟨i, by have := (low s).isLt; omega⟩ hi

theorem sumN_front (h : Nat → Nat) : ∀ n, sumN h (n + 1) = h 0 + sumN (fun i => h (i + 1)) n
  | 0 => by simp [sumN]
  | n + 1 => by rw [sumN_succ, sumN_front h n, sumN_succ]; omega
theorem sumN_shift (h : Nat → Nat) (m : Nat) : ∀ n, sumN h (m + n) = sumN h m + sumN (fun i => h (m + i)) n
  | 0 => rfl
  | n + 1 => by rw [← Nat.add_assoc, sumN_succ, sumN_shift h m n, sumN_succ]; omega
theorem sumN_none {h : Nat → Nat} {n : Nat} (e : ∀ i, i < n → h i = 0) : sumN h n = 0 := by rw [sumN_congr n e, sumN_zero]
theorem sumN_mulr (c : Nat) (g : Nat → Nat) (n : Nat) : sumN (fun v => g v * c) n = sumN g n * c := by
  rw [sumN_congr n (fun i _ => Nat.mul_comm (g i) c), sumN_mul, Nat.mul_comm]

/-- Products of two rows of numbers. -/
def cv (p q : Nat → Nat) (k : Nat) : Nat := sumN (fun i => p i * q (k - i)) (k + 1)
theorem cv_unit (q : Nat → Nat) (p : Nat → Nat) (h0 : p 0 = 1) (h : ∀ i, p (i + 1) = 0) (k : Nat) : cv p q k = q k := by
  unfold cv
  rw [sumN_front, h0, sumN_none (fun i _ => by rw [h]; simp)]
  simp

/-- A set of the second graph alone. -/
theorem bit_sh {m t : Nat} (j : Nat) : (2 ^ m * t).testBit j = (decide (m ≤ j) && t.testBit (j - m)) := by
  have := bt_bit (m := m) (s := 0) (Nat.two_pow_pos m) t j
  unfold bt at this
  rw [Nat.add_zero] at this
  rw [this]
  by_cases h : j < m
  · have : ¬ m ≤ j := by omega
    simp [h, this]
  · have : m ≤ j := by omega
    simp [h, this]
theorem sum_sh {m t : Nat} (hm : m ≤ 8) (ht : 2 ^ m * t < 256) (h : Nat → Nat) : sumN (fun w => if (2 ^ m * t).testBit w = true then h w else 0) 8 = sumN (fun w => if t.testBit w = true then h (m + w) else 0) 8 := by
  have e1 := sumN_shift (fun w => if (2 ^ m * t).testBit w = true then h w else 0) m (8 - m)
  rw [show m + (8 - m) = 8 by omega] at e1
  rw [e1, sumN_none (fun i hi => by rw [bit_sh]; have : ¬ m ≤ i := by omega
                                    simp [this]), Nat.zero_add]
  have e2 : sumN (fun w => if t.testBit w = true then h (m + w) else 0) 8 = sumN (fun w => if t.testBit w = true then h (m + w) else 0) (8 - m) := sumN_stop 8 (by omega) (fun i h1 h2 => by
    have : (2 ^ m * t).testBit (m + i) = false := bit8 ht (by omega)
    rw [bit_sh, Nat.add_sub_cancel_left] at this
    simp at this
    rw [this]; simp)
  rw [e2]
  refine sumN_congr _ fun i _ => ?_
  rw [bit_sh, Nat.add_sub_cancel_left]
  simp

theorem sh_nums {m : Nat} {f g : Nat → Nat} (hm : m ≤ 8) : ∀ t, 2 ^ m * t < 256 → ∀ k, nums (besF m f g) (2 ^ m * t) k = nums g t k := by
  intro t
  induction t using Nat.strongRecOn with
  | _ t ih =>
    intro ht k
    have hp := Nat.two_pow_pos m
    have ht2 : t < 256 := Nat.lt_of_le_of_lt (Nat.le_mul_of_pos_left t hp) ht
    by_cases h0 : t = 0
    · subst h0; rw [Nat.mul_zero, nums_zero, nums_zero]
    cases k with
    | zero => rw [nums_none' ht, nums_none' ht2]
    | succ j =>
      have hb := low_bit ht2 h0
      have hlb : (2 ^ m * t).testBit (m + (low t).val) = true := by rw [bit_sh, Nat.add_sub_cancel_left, hb]; simp
      have hl8 : m + (low t).val < 8 := by
        rcases Nat.lt_or_ge (m + (low t).val) 8 with h | h
        · exact h
        · rw [bit8 ht h] at hlb; cases hlb
      have hlow : (low (2 ^ m * t)).val = m + (low t).val := low_eq ht hl8 hlb (fun i hi => by
        rw [bit_sh]
        by_cases c : m ≤ i
        · rw [low_none ht2 (i := i - m) (by omega)]; simp
        · simp [c])
      have hwo : ∀ s w, 2 ^ m * s < 256 → w < 8 → m + w < 8 → wo (2 ^ m * s) (m + w) = 2 ^ m * wo s w := fun s w hs hw hmw => by
        have hs2 : s < 256 := Nat.lt_of_le_of_lt (Nat.le_mul_of_pos_left s hp) hs
        have hle : 2 ^ m * wo s w ≤ 2 ^ m * s := Nat.mul_le_mul_left _ (wo_le s w)
        refine eq_bits (wo_256 hs) (by omega) (fun i => ?_)
        have b1 := wo_bit (2 ^ m * s) ⟨m + w, hmw⟩ i
        simp only at b1
        rw [b1, bit_sh, bit_sh]
        by_cases c : m ≤ i.val
        · have b2 := wo_bit s ⟨w, hw⟩ ⟨i.val - m, by omega⟩
          simp only at b2
          rw [b2]
          have : (i ≠ (⟨m + w, hmw⟩ : Fin 8)) ↔ ((⟨i.val - m, by omega⟩ : Fin 8) ≠ ⟨w, hw⟩) := by
            simp only [ne_eq, Fin.ext_iff]; omega
          simp only [this]
          simp [c]
        · simp [c]
      have hrst : rst (2 ^ m * t) = 2 ^ m * rst t := by unfold rst; rw [hlow]; exact hwo t _ ht (low t).isLt hl8
      have hrl := rst_lt ht2 h0
      have hrle : 2 ^ m * rst t ≤ 2 ^ m * t := Nat.mul_le_mul_left _ (Nat.le_of_lt hrl)
      have htie : tieOf (besF m f g) (2 ^ m * t) = 2 ^ m * tieOf g t := by
        have hle : 2 ^ m * tieOf g t ≤ 2 ^ m * rst t := Nat.mul_le_mul_left _ Nat.and_le_right
        unfold tieOf at hle ⊢
        rw [hlow, hrst]
        refine eq_bits (Nat.lt_of_le_of_lt Nat.and_le_right (by omega)) (by omega) (fun i => ?_)
        have e : besF m f g (m + (low t).val) = 2 ^ m * g (low t).val := by unfold besF; rw [if_neg (by omega), Nat.add_sub_cancel_left, Nat.mul_comm]
        rw [Nat.testBit_and, e, bit_sh, bit_sh, bit_sh, Nat.testBit_and]
        by_cases c : m ≤ i.val <;> simp [c]
      rw [nums_sum ht (by intro e; rw [e] at hlb; simp at hlb), nums_sum ht2 h0, hrst, htie, ih (rst t) hrl (by omega)]
      congr 1
      have hle : 2 ^ m * tieOf g t ≤ 2 ^ m * rst t := Nat.mul_le_mul_left _ Nat.and_le_right
      rw [sum_sh hm (by omega) (fun w => nums (besF m f g) (wo (2 ^ m * rst t) w) j)]
      refine sumN_congr 8 fun w hw => ?_
      cases hbw : (tieOf g t).testBit w with
      | false => simp
      | true =>
        have hmw : m + w < 8 := by
          have hx : (2 ^ m * tieOf g t).testBit (m + w) = true := by rw [bit_sh, Nat.add_sub_cancel_left, hbw]; simp
          rcases Nat.lt_or_ge (m + w) 8 with h | h
          · exact h
          · rw [bit8 (show 2 ^ m * tieOf g t < 256 by omega) h] at hx; cases hx
        have hwl := wo_le (rst t) w
        have hwle : 2 ^ m * wo (rst t) w ≤ 2 ^ m * rst t := Nat.mul_le_mul_left _ hwl
        rw [if_pos rfl, if_pos rfl, hwo (rst t) w (by omega) hw hmw, ih _ (by omega) (by omega)]

end Go.Proofs.YtbjpokjllkblaaaDoor
