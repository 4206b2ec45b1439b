/-
  WHAT HOLDS OF A LEFT SIDE: plain functions, no walk.
-/
import Derived.Test.YtnmemefkeehjjabDoorPart1
namespace Go.Proofs.YtnmemefkeehjjabDoor
set_option linter.unusedVariables false
set_option linter.unusedSimpArgs false
open Go.RowKit

theorem and_zero_of {a b : Nat} (ha : a < 256) (h : ∀ i, a.testBit i = true → b.testBit i = true → False) : a &&& b = 0 := by
  apply Nat.eq_of_testBit_eq
  intro i
  rw [Nat.testBit_and, Nat.zero_testBit]
  cases h1 : a.testBit i with
  | false => rfl
  | true =>
    cases h2 : b.testBit i with
    | false => rfl
    | true => exact (h i h1 h2).elim

theorem left_root {f : Nat → Nat} {n k : Nat} (hf : ∀ i, f i < 2 ^ n) (hn : n ≤ 8) (hk : k < n) (h : (partsTo f n k).2.testBit k = false) : (leftTo f n n).testBit k = true := by
  have h1 : (leftTo f n (k + 1)).testBit k = true := by
    rw [leftTo_new h, Nat.testBit_or, (even_is hf hn hk).2.1, Bool.or_true]
  obtain ⟨d, hd⟩ : ∃ d, n = k + 1 + d := ⟨n - (k + 1), by omega⟩
  have := leftTo_up f n (k + 1) d k h1
  rwa [← hd] at this

/-- What is left or beside what is left. -/
def wide (f : Nat → Nat) (n : Nat) : Nat := leftTo f n n ||| arnd f (leftTo f n n)
theorem wide_closed {f : Nat → Nat} {n : Nat} (hf : ∀ i, f i < 2 ^ n) (hn : n ≤ 8) : wide f n < 256 ∧ Closed f (wide f n) := by
  have hf8 : ∀ i, f i < 256 := fun i => Nat.lt_of_lt_of_le (hf i) (pow_le_256 hn)
  obtain ⟨hl, hc⟩ := leftTo_facts hf hn n (Nat.le_refl _)
  refine ⟨or_lt hl (arnd_lt hf8 _), closed_of fun i hi j hj => ?_⟩
  unfold wide at hi ⊢
  rw [Nat.testBit_or, Bool.or_eq_true] at hi ⊢
  rcases hi with hi | hi
  · exact .inr (arnd_bit.2 ⟨i, bit_lt8 hl hi, hi, hj⟩)
  · obtain ⟨x, hx, hx2, hx3⟩ := arnd_bit.1 hi
    left
    refine hc j (arnd_bit.2 ⟨x, hx, hx2, ?_⟩)
    exact arnd_bit.2 ⟨i, bit_lt8 (hf8 x) hx3, hx3, hj⟩
theorem wide_seen {f : Nat → Nat} {n : Nat} (hf : ∀ i, f i < 2 ^ n) (hn : n ≤ 8) : ∀ k, k ≤ n → Sub (partsTo f n k).2 (wide f n)
  | 0, _ => fun i hi => by simp [partsTo] at hi
  | k + 1, hk => by
    have ih := wide_seen hf hn k (by omega)
    cases hb : (partsTo f n k).2.testBit k with
    | true => rw [partsTo_old hb]; exact ih
    | false =>
      rw [partsTo_new hb]
      obtain ⟨hw, hc⟩ := wide_closed hf hn
      refine or_sub ih ((reach_is hf hn (by omega)).2.2.2 _ hw ?_ hc)
      unfold wide
      rw [Nat.testBit_or, left_root hf hn (by omega) hb, Bool.true_or]

theorem left_facts {f : Nat → Nat} {n : Nat} (hf : ∀ i, f i < 2 ^ n) (hn : n ≤ 8) (h1 : 1 ≤ n) (hsy : SymF f) (hfree : arnd f (leftTo f n n) &&& leftTo f n n = 0) :
    leftTo f n n < 256 ∧ (∀ v, (leftTo f n n).testBit v = true → f v &&& leftTo f n n = 0) ∧ (∀ v, (leftTo f n n).testBit v = false → f v &&& (255 - leftTo f n n) = 0) ∧ (leftTo f n n).testBit 0 = true := by
  have hf8 : ∀ i, f i < 256 := fun i => Nat.lt_of_lt_of_le (hf i) (pow_le_256 hn)
  obtain ⟨hl, hc⟩ := leftTo_facts hf hn n (Nat.le_refl _)
  have hfr := (free_iff hl).1 hfree
  refine ⟨hl, fun v hv => and_zero_of (hf8 v) fun j hj hj2 => hfr v j hv hj2 hj, fun v hv => and_zero_of (hf8 v) fun j hj hj2 => ?_, left_root hf hn (by omega) (by simp [partsTo])⟩
  rw [not_bit hl, Bool.and_eq_true, Bool.not_eq_true'] at hj2
  have hjn : j < n := bit_lt_of_lt_pow (hf v) hj
  have hs := (parts_facts hf hn n (Nat.le_refl _)).2.2.1 j hjn
  have hw := wide_seen hf hn n (Nat.le_refl _) j hs
  unfold wide at hw
  rw [Nat.testBit_or, hj2.2, Bool.false_or] at hw
  obtain ⟨x, hx, hx2, hx3⟩ := arnd_bit.1 hw
  have : (leftTo f n n).testBit v = true := hc v (arnd_bit.2 ⟨x, hx, hx2, arnd_bit.2 ⟨j, bit_lt8 (hf8 x) hx3, hx3, hsy v j hj⟩⟩)
  rw [hv] at this
  cases this

end Go.Proofs.YtnmemefkeehjjabDoor
