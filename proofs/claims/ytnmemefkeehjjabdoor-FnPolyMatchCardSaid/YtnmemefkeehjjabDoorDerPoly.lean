/-
  DERIVATIVES OF MATCHING POLYNOMIALS: plain functions, no walk.
-/
import Derived.Test.YtnmemefkeehjjabDoorDerMath
import Derived.Test.YtnmemefkeehjjabDoorImplPoly
namespace Go.Proofs.YtnmemefkeehjjabDoor
set_option linter.unusedVariables false
set_option linter.unusedSimpArgs false
open Go.RowKit
set_option maxRecDepth 100000

/-- The number for a power in the sum of the first few polynomials. -/
def derAt (n : Nat) (f : Nat → Nat) (v p : Nat) : Int := sumTo v (fun i => polyAt (n - 1) (nums f (wo (2 ^ n - 1) i)) p)
/-- The sum of the polynomials without each of the first few nodes. -/
def derSum (n : Nat) (f : Nat → Nat) (v : Nat) : List Int := trim (tab n (derAt n f v))
theorem co_derSum (n : Nat) (f : Nat → Nat) (v p : Nat) : co (derSum n f v) p = if p < n then derAt n f v p else 0 := by
  unfold derSum; rw [co_trim, co_tab]
theorem derSum_zero (n : Nat) (f : Nat → Nat) : derSum n f 0 = [] := by
  have : trim (tab n (derAt n f 0)) = trim [] := trim_ext fun i => by
    rw [co_tab]
    have : co [] i = 0 := co_out (by simp)
    rw [this]
    split
    · exact sumTo_zero _
    · rfl
  unfold derSum
  rw [this]; rfl
theorem sumTo_cast (g : Nat → Nat) : ∀ n, sumTo n (fun i => (g i : Int)) = (sumN g n : Nat)
  | 0 => rfl
  | n + 1 => by rw [sumTo_succ, sumTo_cast g n, sumN_succ]; omega
theorem sumTo_castN (g : Nat → Nat) : ∀ n, sumTo n (fun i => -(g i : Int)) = -((sumN g n : Nat) : Int)
  | 0 => rfl
  | n + 1 => by rw [sumTo_succ, sumTo_castN g n, sumN_succ]; omega
theorem derAt_small {n v p : Nat} {f : Nat → Nat} (h8 : n ≤ 8) (hv : v ≤ n) : -344373768 ≤ derAt n f v p ∧ derAt n f v p ≤ 344373768 := by
  have h := sumTo_bound (n := v) (f := fun i => polyAt (n - 1) (nums f (wo (2 ^ n - 1) i)) p) (b := 43046721) (fun i _ => polyAt_small (b := 43046721) (fun k => nums_small (wo_256 (all256 h8)) k))
  unfold derAt
  have : (v : Int) * 43046721 ≤ 344373768 := by omega
  omega
theorem derSum_ok {n v : Nat} {f : Nat → Nat} (h8 : n ≤ 8) (hv : v ≤ n) : okPoly (derSum n f v) = true := by
  rw [okPoly_iff]
  refine ⟨?_, ?_, trim_last _⟩
  · have := trim_len (tab n (derAt n f v))
    rw [tab_len] at this
    unfold derSum
    omega
  · refine within_of_co fun i => ?_
    rw [co_derSum]
    have := derAt_small (p := i) (f := f) h8 hv
    split <;> omega
theorem derSum_succ {n v : Nat} {f : Nat → Nat} (h2 : 2 ≤ n) : trim (addL (derSum n f v) (mpL (n - 1) (nums f (wo (2 ^ n - 1) v)))) = derSum n f (v + 1) := by
  have e : derSum n f (v + 1) = trim (tab n (derAt n f (v + 1))) := rfl
  rw [e]
  refine trim_ext fun i => ?_
  rw [co_addL, co_derSum, co_tab]
  unfold mpL
  rw [co_tab, show n - 1 + 1 = n by omega]
  split
  · unfold derAt; rw [sumTo_succ]
  · rfl
theorem bit_all_no : ∀ (n : Fin 9) (v : Fin 8), n.val ≤ v.val → (2 ^ n.val - 1).testBit v.val = false := by decide +kernel
theorem der_all {n : Nat} {f : Nat → Nat} (h8 : n ≤ 8) (q : Nat) : sumN (fun i => nums f (wo (2 ^ n - 1) i) q) n + 2 * q * nums f (2 ^ n - 1) q = n * nums f (2 ^ n - 1) q := by
  have h := der_nums (f := f) (2 ^ n - 1) (all256 h8) q
  have hs := all_size ⟨n, by omega⟩
  simp only at hs
  rw [hs] at h
  rw [sumN_stop (n := n) 8 h8 (fun i h1 h2 => by
    have := bit_all_no ⟨n, by omega⟩ ⟨i, h2⟩ h1
    simp only at this
    rw [this]; simp)] at h
  rw [sumN_congr (g := fun i => nums f (wo (2 ^ n - 1) i) q) n (fun i hi => by rw [all_bit h8 hi, if_pos rfl])] at h
  exact h
theorem der_at {n p : Nat} {f : Nat → Nat} (h8 : n ≤ 8) (hp : p < n) : derAt n f n p = ((p + 1 : Nat) : Int) * polyAt n (nums f (2 ^ n - 1)) (p + 1) := by
  unfold derAt polyAt
  rw [show n - (p + 1) = n - 1 - p by omega]
  by_cases hpar : (n - 1 - p) % 2 = 0
  · obtain ⟨q, hq⟩ : ∃ q, (n - 1 - p) / 2 = q := ⟨_, rfl⟩
    have hd := der_all (f := f) h8 q
    have hn : n = p + 1 + 2 * q := by omega
    have hd2 : sumN (fun i => nums f (wo (2 ^ n - 1) i) q) n = (p + 1) * nums f (2 ^ n - 1) q := by
      have e : n * nums f (2 ^ n - 1) q = (p + 1) * nums f (2 ^ n - 1) q + 2 * q * nums f (2 ^ n - 1) q := by
        rw [← Nat.add_mul, ← hn]
      omega
    simp only [if_pos hpar]
    rw [hq]
    by_cases hs : q % 2 = 0
    · simp only [if_pos hs]
      rw [sumTo_cast (fun i => nums f (wo (2 ^ n - 1) i) q), hd2, Int.natCast_mul]
    · simp only [if_neg hs]
      rw [sumTo_castN (fun i => nums f (wo (2 ^ n - 1) i) q), hd2, Int.natCast_mul, Int.mul_neg]
  · simp only [if_neg hpar]
    rw [sumTo_zeros (fun _ _ => rfl)]; simp
theorem der_whole {n : Nat} {f : Nat → Nat} (h8 : n ≤ 8) : trim (derL (mpL n (nums f (2 ^ n - 1)))) = derSum n f n := by
  unfold derSum
  refine trim_ext fun i => ?_
  have hl : (mpL n (nums f (2 ^ n - 1))).length = n + 1 := by unfold mpL; rw [tab_len]
  unfold derL
  rw [co_tab, co_tab, hl, Nat.add_sub_cancel]
  split
  · rename_i hi
    rw [der_at h8 hi]
    unfold mpL
    rw [co_tab, if_pos (by omega)]
  · rfl

end Go.Proofs.YtnmemefkeehjjabDoor
