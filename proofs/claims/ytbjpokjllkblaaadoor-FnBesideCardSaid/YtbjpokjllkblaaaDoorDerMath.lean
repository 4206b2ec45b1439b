/-
  MATCHING NUMBERS SUMMED OVER NODES TAKEN OUT: plain functions, no walk.
-/
import Derived.Test.YtbjpokjllkblaaaDoorNumSum
import Derived.Test.YtbjpokjllkblaaaDoorMPoly
namespace Go.Proofs.YtbjpokjllkblaaaDoor
set_option linter.unusedVariables false
set_option linter.unusedSimpArgs false
open Go.RowKit
set_option maxRecDepth 100000

theorem sumN_swap (X : Nat → Nat → Nat) (m : Nat) : ∀ n, sumN (fun v => sumN (fun u => X v u) m) n = sumN (fun u => sumN (fun v => X v u) n) m
  | 0 => by
    have : ∀ m, sumN (fun u => sumN (fun v => X v u) 0) m = 0 := fun m => sumN_zero m
    rw [this]; rfl
  | n + 1 => by
    rw [sumN_succ, sumN_swap X m n, ← sumN_add]
    exact sumN_congr m fun u _ => (sumN_succ (fun v => X v u) n).symm
theorem sumN_mul (c : Nat) (g : Nat → Nat) : ∀ n, sumN (fun v => c * g v) n = c * sumN g n
  | 0 => rfl
  | n + 1 => by rw [sumN_succ, sumN_succ, sumN_mul c g n, Nat.mul_add]
theorem bits_eight (s : Nat) (hs : s < 256) : sumN (fun v => if s.testBit v = true then 1 else 0) 8 = (bitsOf s).length := by
  have := bits_sum ⟨8, by decide⟩ ⟨s, hs⟩ hs
  exact this.symm
/-- A sum over a set's nodes: the lowest one, and the others. -/
theorem sum_low {s : Nat} (hs : s < 256) (h0 : s ≠ 0) (g : Nat → Nat) : sumN (fun v => if s.testBit v = true then g v else 0) 8 = g (low s).val + sumN (fun v => if (rst s).testBit v = true then g v else 0) 8 := by
  have hp := sumN_point (g (low s).val) (low s)
  rw [← hp, ← sumN_add]
  refine sumN_congr 8 fun v hv => ?_
  have hw := wo_bit s (low s) ⟨v, hv⟩
  simp only at hw
  unfold rst
  rw [hw]
  by_cases e : (⟨v, hv⟩ : Fin 8) = low s
  · have e2 : v = (low s).val := by rw [← e]
    have hl := low_bit hs h0
    rw [← e2] at hl
    rw [hl, if_pos e2]
    simp [e, e2]
  · have e2 : ¬ v = (low s).val := fun c => e (Fin.ext c)
    rw [if_neg e2]
    simp [e]

theorem der_nums {f : Nat → Nat} : ∀ s, s < 256 → ∀ k, sumN (fun v => if s.testBit v = true then nums f (wo s v) k else 0) 8 + 2 * k * nums f s k = (bitsOf s).length * nums f s k := by
  intro s
  induction s using Nat.strongRecOn with
  | _ s ih =>
    intro hs k
    cases k with
    | zero =>
      rw [nums_none' hs]
      have : sumN (fun v => if s.testBit v = true then nums f (wo s v) 0 else 0) 8 = sumN (fun v => if s.testBit v = true then 1 else 0) 8 := sumN_congr 8 fun v _ => by rw [nums_none' (wo_256 hs)]
      rw [this, bits_eight s hs]
      omega
    | succ j =>
      by_cases h0 : s = 0
      · subst h0
        rw [nums_zero, if_neg (by omega)]
        have : sumN (fun v => if (0 : Nat).testBit v = true then nums f (wo 0 v) (j + 1) else 0) 8 = sumN (fun _ => 0) 8 := sumN_congr 8 fun v _ => by simp
        rw [this, sumN_zero]; simp
      · have hr := rst_lt hs h0
        have hr256 : rst s < 256 := wo_256 hs
        have hsz := size_rst hs h0
        have ih1 := ih (rst s) hr hr256 (j + 1)
        rw [sum_low hs h0]
        have e0 : wo s (low s).val = rst s := rfl
        rw [e0]
        have e1 : sumN (fun v => if (rst s).testBit v = true then nums f (wo s v) (j + 1) else 0) 8 = sumN (fun v => (if (rst s).testBit v = true then nums f (wo (rst s) v) (j + 1) else 0) + sumN (fun u => if (rst s).testBit v = true ∧ (tieOf f s).testBit u = true ∧ u ≠ v then nums f (wo (wo (rst s) u) v) j else 0) 8) 8 := by
          refine sumN_congr 8 fun v hv => ?_
          cases hb : (rst s).testBit v with
          | false =>
            have : sumN (fun u => if false = true ∧ (tieOf f s).testBit u = true ∧ u ≠ v then nums f (wo (wo (rst s) u) v) j else 0) 8 = sumN (fun _ => 0) 8 := sumN_congr 8 fun u _ => by simp
            rw [this, sumN_zero]; simp
          | true =>
            rw [if_pos rfl, if_pos rfl]
            have hw := wo_bit s (low s) ⟨v, hv⟩
            simp only at hw
            have hb2 := hb
            unfold rst at hb2
            rw [hw, Bool.and_eq_true, decide_eq_true_eq] at hb2
            have hl := low_wo hs h0 ⟨v, hv⟩ hb2.2
            simp only at hl
            have hlb : (wo s v).testBit (low s).val = true := by
              have := wo_bit s ⟨v, hv⟩ (low s)
              simp only at this
              rw [this, low_bit hs h0]
              simpa using fun e => hb2.2 e.symm
            have hrr : rst (wo s v) = wo (rst s) v := by
              unfold rst
              rw [hl, wo_comm]
            rw [nums_sum (wo_256 hs) (nz_bit hlb), hrr]
            congr 1
            refine sumN_congr 8 fun u hu => ?_
            have ht : (tieOf f (wo s v)).testBit u = ((tieOf f s).testBit u && decide (u ≠ v)) := by
              unfold tieOf
              have h3 := wo_bit (rst s) ⟨v, hv⟩ ⟨u, hu⟩
              simp only at h3
              rw [hrr, hl, Nat.testBit_and, h3, Nat.testBit_and, Bool.and_assoc]
              congr 2
              simp
            rw [ht, wo_comm (rst s) v u]
            by_cases c1 : (tieOf f s).testBit u = true
            · by_cases c2 : u = v
              · simp [c2]
              · simp [c1, c2]
            · simp [c1]
        rw [e1, sumN_add]
        have e2 := sumN_swap (fun v u => if (rst s).testBit v = true ∧ (tieOf f s).testBit u = true ∧ u ≠ v then nums f (wo (wo (rst s) u) v) j else 0) 8 8
        rw [e2]
        have e3 : sumN (fun u => sumN (fun v => if (rst s).testBit v = true ∧ (tieOf f s).testBit u = true ∧ u ≠ v then nums f (wo (wo (rst s) u) v) j else 0) 8 + (2 * j + 1) * (if (tieOf f s).testBit u = true then nums f (wo (rst s) u) j else 0)) 8
            = sumN (fun u => (bitsOf (rst s)).length * (if (tieOf f s).testBit u = true then nums f (wo (rst s) u) j else 0)) 8 := by
          refine sumN_congr 8 fun u hu => ?_
          cases hb : (tieOf f s).testBit u with
          | false =>
            have : sumN (fun v => if (rst s).testBit v = true ∧ false = true ∧ u ≠ v then nums f (wo (wo (rst s) u) v) j else 0) 8 = sumN (fun _ => 0) 8 := sumN_congr 8 fun v _ => by simp
            rw [this, sumN_zero]; simp
          | true =>
            have hru : (rst s).testBit u = true := by
              unfold tieOf at hb
              rw [Nat.testBit_and, Bool.and_eq_true] at hb
              exact hb.2
            have hsz2 := size_wo hr256 hu hru
            have hle := wo_le (rst s) u
            have ih2 := ih (wo (rst s) u) (by omega) (wo_256 hr256) j
            have e4 : sumN (fun v => if (rst s).testBit v = true ∧ true = true ∧ u ≠ v then nums f (wo (wo (rst s) u) v) j else 0) 8 = sumN (fun v => if (wo (rst s) u).testBit v = true then nums f (wo (wo (rst s) u) v) j else 0) 8 := by
              refine sumN_congr 8 fun v hv => ?_
              have h3 := wo_bit (rst s) ⟨u, hu⟩ ⟨v, hv⟩
              simp only at h3
              rw [h3]
              by_cases c1 : (rst s).testBit v = true
              · by_cases c2 : u = v
                · simp [c2]
                · have c3 : ¬ v = u := fun e => c2 e.symm
                  simp [c1, c2, c3]
              · simp [c1]
            rw [e4, if_pos rfl]
            rw [← hsz2, Nat.add_mul, Nat.add_mul, Nat.one_mul]
            omega
        rw [sumN_add, sumN_mul, sumN_mul] at e3
        rw [nums_sum hs h0 j]
        obtain ⟨A, hA⟩ : ∃ A, nums f (rst s) (j + 1) = A := ⟨_, rfl⟩
        obtain ⟨S, hS⟩ : ∃ S, sumN (fun w => if (tieOf f s).testBit w = true then nums f (wo (rst s) w) j else 0) 8 = S := ⟨_, rfl⟩
        obtain ⟨B, hB⟩ : ∃ B, sumN (fun v => if (rst s).testBit v = true then nums f (wo (rst s) v) (j + 1) else 0) 8 = B := ⟨_, rfl⟩
        obtain ⟨m, hm⟩ : ∃ m, (bitsOf (rst s)).length = m := ⟨_, rfl⟩
        rw [hA, hB, hm] at ih1
        rw [hS, hm] at e3
        rw [hA, hS, hB, ← hsz, hm, Nat.mul_add, Nat.add_mul m 1, Nat.one_mul, Nat.mul_add m]
        have e5 : 2 * (j + 1) * S = (2 * j + 1) * S + S := by
          have : 2 * (j + 1) = 2 * j + 1 + 1 := by omega
          rw [this, Nat.succ_mul]
        omega

end Go.Proofs.YtbjpokjllkblaaaDoor
