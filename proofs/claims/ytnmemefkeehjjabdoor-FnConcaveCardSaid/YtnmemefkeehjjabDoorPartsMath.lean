/-
  WHAT HOLDS OF THE PARTS: plain functions, no walk.
-/
import Derived.Test.YtnmemefkeehjjabDoorPart1
import Derived.Test.YtnmemefkeehjjabDoorSidesMath
namespace Go.Proofs.YtnmemefkeehjjabDoor
set_option linter.unusedVariables false
set_option linter.unusedSimpArgs false
open Go.RowKit

/-- All nodes of some sets. -/
def orAll (l : List Nat) : Nat := l.foldl (fun a r => a ||| r) 0
theorem orAll_snoc (l : List Nat) (r : Nat) : orAll (l ++ [r]) = orAll l ||| r := by simp [orAll]

theorem partsTo_seen (f : Nat → Nat) (n : Nat) : ∀ k, (partsTo f n k).2 = orAll (partsTo f n k).1
  | 0 => rfl
  | k + 1 => by
    cases h : (partsTo f n k).2.testBit k with
    | true => rw [partsTo_old h]; exact partsTo_seen f n k
    | false => rw [partsTo_new h, orAll_snoc, partsTo_seen f n k]

/-- Of each part: no node of it was in one ahead; it has nodes; all neighbours of its nodes are in it. -/
def PartsGood (f : Nat → Nat) (l : List Nat) : Prop := ∀ i (h : i < l.length), orAll (l.take i) &&& l[i] = 0 ∧ l[i] ≠ 0 ∧ l[i] < 256 ∧ ∀ v, l[i].testBit v = true → f v &&& (255 - l[i]) = 0
theorem parts_good {f : Nat → Nat} {n : Nat} (hf : ∀ i, f i < 2 ^ n) (hn : n ≤ 8) (hsy : SymF f) : ∀ k, k ≤ n → PartsGood f (partsTo f n k).1
  | 0, _ => fun i hi => by simp [partsTo] at hi
  | k + 1, hk => by
    have ih := parts_good hf hn hsy k (by omega)
    have hf8 : ∀ i, f i < 256 := fun i => Nat.lt_of_lt_of_le (hf i) (pow_le_256 hn)
    cases hb : (partsTo f n k).2.testBit k with
    | true => rw [partsTo_old hb]; exact ih
    | false =>
      rw [partsTo_new hb]
      intro i hi
      simp only [List.length_append, List.length_singleton] at hi
      by_cases h : i < (partsTo f n k).1.length
      · have := ih i h
        simp only [List.getElem_append_left h]
        rw [List.take_append_of_le_length (by omega)]
        exact this
      · obtain rfl : i = (partsTo f n k).1.length := by omega
        have hg : ((partsTo f n k).1 ++ [reach f n k])[(partsTo f n k).1.length]'(by simp) = reach f n k := by simp
        simp only [hg]
        rw [List.take_left, ← partsTo_seen f n k]
        obtain ⟨h1, h2, h3, _⟩ := parts_facts hf hn k (by omega)
        obtain ⟨hr, hr0⟩ := reach_pos hf hn (show k < n by omega)
        have hr8 : reach f n k < 256 := Nat.lt_of_lt_of_le hr (pow_le_256 hn)
        have hs8 : (partsTo f n k).2 < 256 := Nat.lt_of_lt_of_le h1 (pow_le_256 hn)
        have hcT : Closed f (255 - (partsTo f n k).2) := closed_of fun i hi j hj => by
          rw [not_bit hs8, Bool.and_eq_true, decide_eq_true_eq, Bool.not_eq_true'] at hi ⊢
          refine ⟨bit_lt8 (hf8 i) hj, ?_⟩
          cases hjs : (partsTo f n k).2.testBit j with
          | false => rfl
          | true =>
            have := closed_at h2 hs8 hjs i (hsy i j hj)
            rw [hi.2] at this; cases this
        have hw := (reach_is hf hn (show k < n by omega)).2.2.2 (255 - (partsTo f n k).2) (by omega) (by rw [not_bit hs8, hb]; simp; omega) hcT
        refine ⟨and_zero_of (Nat.lt_of_lt_of_le h1 (pow_le_256 hn)) fun i hi1 hi2 => ?_, hr0, hr8, fun v hv => and_zero_of (hf8 v) fun j hj hj2 => ?_⟩
        · have := hw i hi2
          rw [not_bit hs8, Bool.and_eq_true, Bool.not_eq_true'] at this
          rw [this.2] at hi1; cases hi1
        · rw [not_bit hr8, Bool.and_eq_true, Bool.not_eq_true'] at hj2
          have := closed_at (reach_is hf hn (show k < n by omega)).2.2.1 hr8 hv j hj
          rw [hj2.2] at this; cases this
theorem parts_all {f : Nat → Nat} {n : Nat} (hf : ∀ i, f i < 2 ^ n) (hn : n ≤ 8) : orAll (partsTo f n n).1 = 2 ^ n - 1 := by
  rw [← partsTo_seen]
  obtain ⟨h1, _, h3, _⟩ := parts_facts hf hn n (Nat.le_refl _)
  apply Nat.eq_of_testBit_eq
  intro i
  rw [ones_bit]
  by_cases h : i < n
  · rw [h3 i h, decide_eq_true h]
  · rw [decide_eq_false h]
    cases hb : (partsTo f n n).2.testBit i with
    | false => rfl
    | true => exact (h (bit_lt_of_lt_pow h1 hb)).elim
theorem orAll_lt {f : Nat → Nat} {l : List Nat} (h : PartsGood f l) : ∀ i, i ≤ l.length → orAll (l.take i) < 256
  | 0, _ => by simp [orAll]
  | i + 1, hi => by
    rw [List.take_succ_eq_append_getElem (by omega), orAll_snoc]
    exact or_lt (orAll_lt h i (by omega)) (h i (by omega)).2.2.1

end Go.Proofs.YtnmemefkeehjjabDoor
