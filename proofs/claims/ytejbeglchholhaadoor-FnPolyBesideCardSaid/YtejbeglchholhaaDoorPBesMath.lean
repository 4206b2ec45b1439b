/-
  MATCHING POLYNOMIALS OF TWO GRAPHS BESIDE EACH OTHER ARE PRODUCTS; plain functions, no walk.
-/
import Derived.Test.YtejbeglchholhaaDoorBesTot
import Derived.Test.YtejbeglchholhaaDoorImplPoly
namespace Go.Proofs.YtejbeglchholhaaDoor
set_option linter.unusedVariables false
set_option linter.unusedSimpArgs false
open Go.RowKit
set_option maxRecDepth 100000

/-- The number that stands so far below the first one. -/
def dn (g : Nat → Nat) (y : Nat) : Int := if y % 2 = 0 then sgn (y / 2) * (g (y / 2) : Int) else 0
theorem polyAt_dn (n : Nat) (g : Nat → Nat) (p : Nat) : polyAt n g p = dn g (n - p) := by
  unfold polyAt dn sgn
  split
  · split <;> simp
  · rfl
theorem dn_far {g : Nat → Nat} {n : Nat} (h : ∀ k, n < 2 * k → g k = 0) {y : Nat} (hy : n < y) : dn g y = 0 := by
  unfold dn
  split
  · rw [h _ (by omega)]; simp
  · rfl
theorem sgn_add (x y : Nat) : sgn x * sgn y = sgn (x + y) := by
  unfold sgn
  rcases Nat.mod_two_eq_zero_or_one x with h | h <;> rcases Nat.mod_two_eq_zero_or_one y with k | k
  · rw [if_pos h, if_pos k, if_pos (by omega)]; rfl
  · rw [if_pos h, if_neg (by omega), if_neg (by omega)]; rfl
  · rw [if_neg (by omega), if_pos k, if_neg (by omega)]; rfl
  · rw [if_neg (by omega), if_neg (by omega), if_pos (by omega)]; rfl
theorem sumTo_front (h : Nat → Int) : ∀ n, sumTo (n + 1) h = h 0 + sumTo n (fun i => h (i + 1))
  | 0 => by rw [sumTo_succ, sumTo_zero, sumTo_zero]; omega
  | n + 1 => by rw [sumTo_succ, sumTo_front h n, sumTo_succ]; omega
theorem sumTo_rev (h : Nat → Int) : ∀ n, sumTo n h = sumTo n (fun i => h (n - 1 - i))
  | 0 => rfl
  | n + 1 => by
    rw [sumTo_succ, sumTo_rev h n, sumTo_front (fun i => h (n + 1 - 1 - i))]
    have : sumTo n (fun i => h (n - 1 - i)) = sumTo n (fun i => h (n + 1 - 1 - (i + 1))) := sumTo_congr fun i _ => by congr 1; omega
    rw [this]
    simp only [Nat.add_sub_cancel, Nat.sub_zero]
    omega
theorem sumTo_up {h : Nat → Int} {a : Nat} : ∀ b, a ≤ b → (∀ i, a ≤ i → h i = 0) → sumTo b h = sumTo a h
  | 0, hb, _ => by obtain rfl : a = 0 := by omega
                   rfl
  | b + 1, hb, hz => by
    by_cases e : a = b + 1
    · rw [e]
    · rw [sumTo_succ, sumTo_up b (by omega) hz, hz b (by omega)]; omega
theorem sumTo_even {h : Nat → Int} (hz : ∀ i, h (2 * i + 1) = 0) : ∀ k, sumTo (2 * k + 1) h = sumTo (k + 1) (fun x => h (2 * x))
  | 0 => by rw [sumTo_succ, sumTo_succ]; rfl
  | k + 1 => by
    rw [show 2 * (k + 1) + 1 = 2 * k + 1 + 1 + 1 by omega, sumTo_succ, sumTo_succ, sumTo_even hz k, hz k, sumTo_succ (k + 1)]
    rw [show 2 * k + 1 + 1 = 2 * (k + 1) by omega]
    omega
theorem sumTo_mul (c : Int) (h : Nat → Int) : ∀ n, sumTo n (fun i => c * h i) = c * sumTo n h
  | 0 => by rw [sumTo_zero, sumTo_zero, Int.mul_zero]
  | n + 1 => by rw [sumTo_succ, sumTo_succ, sumTo_mul c h n, Int.mul_add]
theorem sumTo_nat (g : Nat → Nat) : ∀ n, sumTo n (fun i => (g i : Int)) = (sumN g n : Nat)
  | 0 => rfl
  | n + 1 => by rw [sumTo_succ, sumTo_nat g n, sumN_succ]; omega

theorem dn_conv (P Q : Nat → Nat) (K : Nat) : sumTo (K + 1) (fun y => dn P y * dn Q (K - y)) = dn (cv P Q) K := by
  rcases Nat.mod_two_eq_zero_or_one K with h | h
  · obtain ⟨k, rfl⟩ : ∃ k, K = 2 * k := ⟨K / 2, by omega⟩
    rw [sumTo_even (h := fun y => dn P y * dn Q (2 * k - y)) (fun i => by
      unfold dn; rw [if_neg (by omega), Int.zero_mul])]
    have e : sumTo (k + 1) (fun x => dn P (2 * x) * dn Q (2 * k - 2 * x)) = sumTo (k + 1) (fun x => sgn k * ((P x * Q (k - x) : Nat) : Int)) := sumTo_congr fun x hx => by
      unfold dn
      rw [if_pos (by omega), if_pos (by omega), show 2 * x / 2 = x by omega, show (2 * k - 2 * x) / 2 = k - x by omega, Int.natCast_mul]
      have hs := sgn_add x (k - x)
      rw [show x + (k - x) = k by omega] at hs
      rw [← hs, Int.mul_assoc, Int.mul_assoc]
      congr 1
      rw [← Int.mul_assoc, ← Int.mul_assoc, Int.mul_comm (P x : Int)]
    rw [e, sumTo_mul, sumTo_nat]
    unfold dn cv
    rw [if_pos (by omega), show 2 * k / 2 = k by omega]
  · have hz : ∀ y, y < K + 1 → dn P y * dn Q (K - y) = 0 := fun y hlt => by
      unfold dn
      rcases Nat.mod_two_eq_zero_or_one y with hy | hy
      · rw [if_neg (show ¬ (K - y) % 2 = 0 by omega), Int.mul_zero]
      · rw [if_neg (show ¬ y % 2 = 0 by omega), Int.zero_mul]
    rw [sumTo_zeros hz]
    unfold dn
    rw [if_neg (by omega)]

theorem poly_bes_at {m n : Nat} {P Q : Nat → Nat} (hP : ∀ k, m < 2 * k → P k = 0) (hQ : ∀ k, n < 2 * k → Q k = 0) (k : Nat) :
    co (mulL (mpL m P) (mpL n Q)) k = if k < m + n + 1 then polyAt (m + n) (cv P Q) k else 0 := by
  have lm : (mpL m P).length = m + 1 := by unfold mpL; rw [tab_len]
  have ca : ∀ i, co (mpL m P) i = if i < m + 1 then dn P (m - i) else 0 := fun i => by unfold mpL; rw [co_tab, polyAt_dn]
  have cb : ∀ i, co (mpL n Q) i = if i < n + 1 then dn Q (n - i) else 0 := fun i => by unfold mpL; rw [co_tab, polyAt_dn]
  rw [co_mulL, lm]
  unfold convTo
  by_cases hk : k < m + n + 1
  · rw [if_pos hk, polyAt_dn, ← dn_conv, sumTo_rev]
    obtain ⟨K, hK⟩ : ∃ K, m + n - k = K := ⟨_, rfl⟩
    rw [hK]
    have e1 : sumTo (m + 1) (fun i => co (mpL m P) (m + 1 - 1 - i) * if m + 1 - 1 - i ≤ k then co (mpL n Q) (k - (m + 1 - 1 - i)) else 0) = sumTo (m + 1) (fun y => if y ≤ K then dn P y * dn Q (K - y) else 0) := sumTo_congr fun y hy => by
      rw [ca, cb, if_pos (by omega), show m - (m + 1 - 1 - y) = y by omega]
      by_cases c1 : m + 1 - 1 - y ≤ k
      · rw [if_pos c1]
        by_cases c2 : k - (m + 1 - 1 - y) < n + 1
        · rw [if_pos c2, if_pos (by omega), show n - (k - (m + 1 - 1 - y)) = K - y by omega]
        · rw [if_neg c2, if_neg (by omega), Int.mul_zero]
      · rw [if_neg c1, if_pos (by omega), dn_far hQ (y := K - y) (by omega), Int.mul_zero]
    rw [e1]
    have e2 : sumTo (m + 1) (fun y => if y ≤ K then dn P y * dn Q (K - y) else 0) = sumTo (m + 1 + (K + 1)) (fun y => if y ≤ K then dn P y * dn Q (K - y) else 0) := (sumTo_up _ (by omega) (fun i hi => by
      rw [dn_far hP (y := i) (by omega), Int.zero_mul]; simp)).symm
    have e3 : sumTo (K + 1) (fun y => if y ≤ K then dn P y * dn Q (K - y) else 0) = sumTo (m + 1 + (K + 1)) (fun y => if y ≤ K then dn P y * dn Q (K - y) else 0) := (sumTo_up _ (by omega) (fun i hi => by
      rw [if_neg (by omega)])).symm
    rw [e2, ← e3]
    exact sumTo_congr fun y hy => by rw [if_pos (by omega)]
  · rw [if_neg hk]
    exact sumTo_zeros fun i hi => by
      by_cases c1 : i ≤ k
      · rw [if_pos c1, cb, if_neg (by omega), Int.mul_zero]
      · rw [if_neg c1, Int.mul_zero]

end Go.Proofs.YtejbeglchholhaaDoor
